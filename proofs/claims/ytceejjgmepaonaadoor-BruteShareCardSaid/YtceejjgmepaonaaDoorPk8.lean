/- Texts that the laws of this seat stand on, part 8. -/
import Derived.Test.YtceejjgmepaonaaDoorPk7
/- Cuts, plainly: what crosses a side, what that weighs; a side and its other side weigh the same, what two share and what both have weigh together no more than both; the least cut between two, its least side. No program in sight. -/
namespace Go.Proofs.YtceejjgmepaonaaDoor.CutPure
open EdPure NtPure
/-- Does an edge cross a side? -/
def crossB (S : Int → Bool) (e : Ed) : Bool := S e.1 != S e.2.1
def crE (S : Int → Bool) (e : Ed) : Int := if crossB S e = true then e.2.2 else 0
/-- What all edges that cross a side weigh. -/
def cutW (M : List Ed) (S : Int → Bool) : Int := (M.map (crE S)).sum
theorem cut_nil (S : Int → Bool) : cutW [] S = 0 := rfl
theorem cut_cons (e : Ed) (M : List Ed) (S : Int → Bool) : cutW (e :: M) S = crE S e + cutW M S := by unfold cutW; simp
theorem cut_append (L M : List Ed) (S : Int → Bool) : cutW (L ++ M) S = cutW L S + cutW M S := by unfold cutW; simp
theorem cut_snoc (M : List Ed) (e : Ed) (S : Int → Bool) : cutW (M ++ [e]) S = cutW M S + crE S e := by rw [cut_append, cut_cons, cut_nil]; omega
theorem cr_congr {S T : Int → Bool} {e : Ed} (h1 : S e.1 = T e.1) (h2 : S e.2.1 = T e.2.1) : crE S e = crE T e := by unfold crE crossB; rw [h1, h2]
theorem cut_congr {M : List Ed} {S T : Int → Bool} (h : ∀ e ∈ M, S e.1 = T e.1 ∧ S e.2.1 = T e.2.1) : cutW M S = cutW M T := by
  induction M with
  | nil => rfl
  | cons e r ih => rw [cut_cons, cut_cons, cr_congr (h e (by simp)).1 (h e (by simp)).2, ih (fun x hx => h x (by simp [hx]))]
theorem cut_same {n : Int} {M : List Ed} (hM : GoodN n M) {S T : Int → Bool} (h : ∀ v, 0 ≤ v → v < n → S v = T v) : cutW M S = cutW M T := by
  refine cut_congr fun e he => ?_
  have h1 := hM.2.1 e he
  have h2 := (hM.1.2 e he).1
  exact ⟨h _ (by omega) (by omega), h _ (by omega) (by omega)⟩
theorem cut_not (M : List Ed) (S : Int → Bool) : cutW M (fun v => !S v) = cutW M S := by
  induction M with
  | nil => rfl
  | cons e r ih =>
    have h : crossB (fun v => !S v) e = crossB S e := by
      show ((!S e.1) != (!S e.2.1)) = (S e.1 != S e.2.1)
      cases S e.1 <;> cases S e.2.1 <;> rfl
    rw [cut_cons, cut_cons, ih]
    unfold crE
    rw [h]
theorem cr_nonneg {e : Ed} (h : 0 ≤ e.2.2) (S : Int → Bool) : 0 ≤ crE S e := by unfold crE; split <;> omega
theorem cut_nonneg {M : List Ed} (h : NonNeg M) (S : Int → Bool) : 0 ≤ cutW M S := by
  induction M with
  | nil => exact Int.le_refl _
  | cons e r ih =>
    have h1 := cr_nonneg (h e (by simp)) S
    have h2 := ih (fun x hx => h x (by simp [hx]))
    rw [cut_cons]; omega
theorem cut_le_all {M : List Ed} (h : NonNeg M) (S : Int → Bool) : cutW M S ≤ allW M := by
  induction M with
  | nil => exact Int.le_refl _
  | cons e r ih =>
    have h1 := h e (by simp)
    have h2 := ih (fun x hx => h x (by simp [hx]))
    have h3 : crE S e ≤ e.2.2 := by unfold crE; split <;> omega
    have h4 : allW (e :: r) = e.2.2 + allW r := by unfold allW; simp
    rw [cut_cons, h4]; omega
theorem bool_two (x : Int) (h : 0 ≤ x) (a b c d : Bool) : (if ((a && c) != (b && d)) = true then x else 0) + (if ((a || c) != (b || d)) = true then x else 0) ≤ (if (a != b) = true then x else 0) + (if (c != d) = true then x else 0) := by
  cases a <;> cases b <;> cases c <;> cases d <;> simp <;> omega
theorem bool_xor (x : Int) (h : 0 ≤ x) (a b c d : Bool) : (if ((a != c) != (b != d)) = true then x else 0) ≤ (if (a != b) = true then x else 0) + (if (c != d) = true then x else 0) := by
  cases a <;> cases b <;> cases c <;> cases d <;> simp <;> omega
/-- What two sides share, and what both have, weigh together no more than both. -/
theorem cut_two {M : List Ed} (h : NonNeg M) (S T : Int → Bool) : cutW M (fun v => S v && T v) + cutW M (fun v => S v || T v) ≤ cutW M S + cutW M T := by
  induction M with
  | nil => exact Int.le_refl _
  | cons e r ih =>
    have h1 := h e (by simp)
    have h2 := ih (fun x hx => h x (by simp [hx]))
    simp only [cut_cons]
    have h3 : crE (fun v => S v && T v) e + crE (fun v => S v || T v) e ≤ crE S e + crE T e := bool_two _ h1 (S e.1) (S e.2.1) (T e.1) (T e.2.1)
    omega
/-- What one has and the other has not, either way. -/
theorem cut_apart {M : List Ed} (h : NonNeg M) (S T : Int → Bool) : cutW M (fun v => S v && !T v) + cutW M (fun v => T v && !S v) ≤ cutW M S + cutW M T := by
  have h1 := cut_two h S (fun v => !T v)
  rw [cut_not M T] at h1
  have h2 : cutW M (fun v => S v || !T v) = cutW M (fun v => T v && !S v) := by
    rw [← cut_not M (fun v => T v && !S v)]
    have hb : ∀ a b : Bool, (a || !b) = !(b && !a) := by decide
    exact cut_congr fun e _ => ⟨hb _ _, hb _ _⟩
  rw [h2] at h1
  exact h1
/-- What just one of two sides has. -/
theorem cut_xor {M : List Ed} (h : NonNeg M) (S T : Int → Bool) : cutW M (fun v => S v != T v) ≤ cutW M S + cutW M T := by
  induction M with
  | nil => exact Int.le_refl _
  | cons e r ih =>
    have h1 := h e (by simp)
    have h2 := ih (fun x hx => h x (by simp [hx]))
    simp only [cut_cons]
    have h3 : crE (fun v => S v != T v) e ≤ crE S e + crE T e := bool_xor _ h1 (S e.1) (S e.2.1) (T e.1) (T e.2.1)
    omega
theorem cut_none (M : List Ed) (b : Bool) : cutW M (fun _ => b) = 0 := by
  induction M with
  | nil => rfl
  | cons e r ih =>
    rw [cut_cons, ih]
    unfold crE crossB
    simp
/-! ### The least number with a property -/
theorem least_ex {P : Nat → Prop} (h : ∃ k, P k) : ∃ k, P k ∧ ∀ j, P j → k ≤ j := by
  obtain ⟨k, hk⟩ := h
  induction k using Nat.strongRecOn with
  | _ k ih =>
    by_cases h : ∃ j, j < k ∧ P j
    · obtain ⟨j, hj, hp⟩ := h
      exact ih j hj hp
    · exact ⟨k, hk, fun j hj => by
        by_cases hjk : k ≤ j
        · exact hjk
        · exact absurd ⟨j, by omega, hj⟩ h⟩
/-- A side that parts s from t, with s in it. -/
def Parts (S : Int → Bool) (s t : Int) : Prop := S s = true ∧ S t = false
/-- Of the sides that part s from t one weighs w, and none less. -/
def IsLam (M : List Ed) (s t : Int) (w : Int) : Prop := (∃ S, Parts S s t ∧ cutW M S = w) ∧ ∀ S, Parts S s t → w ≤ cutW M S
theorem lam_ex {M : List Ed} (h : NonNeg M) {s t : Int} (hst : s ≠ t) : ∃ w, IsLam M s t w := by
  have h0 : ∃ k : Nat, ∃ S, Parts S s t ∧ cutW M S = (k : Int) := by
    refine ⟨(cutW M (fun v => decide (v = s))).toNat, fun v => decide (v = s), ⟨by simp, by simp; omega⟩, ?_⟩
    have := cut_nonneg h (fun v => decide (v = s))
    omega
  obtain ⟨k, hk, hl⟩ := least_ex h0
  refine ⟨k, hk, fun S hS => ?_⟩
  have h1 := cut_nonneg h S
  have := hl (cutW M S).toNat ⟨S, hS, by omega⟩
  omega
theorem lam_one {M : List Ed} {s t w w' : Int} (h : IsLam M s t w) (h' : IsLam M s t w') : w = w' := by
  obtain ⟨⟨S, hS, e⟩, hl⟩ := h
  obtain ⟨⟨S', hS', e'⟩, hl'⟩ := h'
  have h1 := hl S' hS'
  have h2 := hl' S hS
  omega
theorem parts_not {S : Int → Bool} {s t : Int} (h : Parts S s t) : Parts (fun v => !S v) t s := by
  unfold Parts at *
  simp only [h.1, h.2]
  exact ⟨rfl, rfl⟩
theorem lam_symm {M : List Ed} {s t w : Int} (h : IsLam M s t w) : IsLam M t s w := by
  obtain ⟨⟨S, hS, e⟩, hl⟩ := h
  refine ⟨⟨fun v => !S v, parts_not hS, by rw [cut_not]; exact e⟩, fun T hT => ?_⟩
  rw [← cut_not]
  exact hl _ (parts_not hT)
/-- A least side between s and t. -/
def LeastS (M : List Ed) (s t : Int) (S : Int → Bool) : Prop := Parts S s t ∧ ∀ T, Parts T s t → cutW M S ≤ cutW M T
theorem LeastS.lam {M : List Ed} {s t : Int} {S : Int → Bool} (h : LeastS M s t S) : IsLam M s t (cutW M S) := ⟨⟨S, h.1, rfl⟩, h.2⟩
theorem leastS_of {M : List Ed} {s t w : Int} {S : Int → Bool} (h : IsLam M s t w) (hp : Parts S s t) (e : cutW M S = w) : LeastS M s t S := ⟨hp, fun T hT => by rw [e]; exact h.2 T hT⟩
/-- What two least sides share is one. -/
theorem least_and {M : List Ed} (h : NonNeg M) {s t : Int} {S T : Int → Bool} (hS : LeastS M s t S) (hT : LeastS M s t T) : LeastS M s t (fun v => S v && T v) ∧ LeastS M s t (fun v => S v || T v) := by
  have p1 : Parts (fun v => S v && T v) s t := ⟨by simp [hS.1.1, hT.1.1], by simp [hS.1.2]⟩
  have p2 : Parts (fun v => S v || T v) s t := ⟨by simp [hS.1.1], by simp [hS.1.2, hT.1.2]⟩
  have h1 := cut_two h S T
  have h2 := hS.2 _ p1
  have h3 := hS.2 _ p2
  have h4 := hT.2 _ hS.1
  have h5 := hS.2 _ hT.1
  exact ⟨⟨p1, fun U hU => by have := hS.2 U hU; omega⟩, ⟨p2, fun U hU => by have := hS.2 U hU; omega⟩⟩
/-- How many vertices below n a side has. -/
def cntS (S : Int → Bool) : Nat → Nat
  | 0 => 0
  | k + 1 => cntS S k + (if S (k : Int) = true then 1 else 0)
theorem cnt_le {S T : Int → Bool} {n : Nat} (h : ∀ k : Nat, k < n → S k = true → T k = true) : cntS S n ≤ cntS T n := by
  induction n with
  | zero => exact Nat.le_refl _
  | succ n ih =>
    have h1 := ih (fun k hk => h k (by omega))
    have h2 := h n (by omega)
    unfold cntS
    by_cases hs : S n = true
    · rw [if_pos hs, if_pos (h2 hs)]; omega
    · rw [if_neg hs]; omega
theorem cnt_eq {S T : Int → Bool} {n : Nat} (h : ∀ k : Nat, k < n → S k = true → T k = true) (e : cntS S n = cntS T n) : ∀ k : Nat, k < n → S k = T k := by
  induction n with
  | zero => intro k hk; omega
  | succ n ih =>
    have h1 := cnt_le (S := S) (T := T) (n := n) (fun k hk => h k (by omega))
    have h2 := h n (by omega)
    unfold cntS at e
    have h3 : S n = T n := by
      cases hs : S n with
      | true => exact (h2 hs).symm
      | false =>
        cases ht : T n with
        | false => rfl
        | true => rw [if_neg (by rw [hs]; decide), if_pos ht] at e; omega
    have h4 : cntS S n = cntS T n := by rw [h3] at e; omega
    intro k hk
    by_cases hkn : k = n
    · rw [hkn]; exact h3
    · exact ih (fun j hj => h j (by omega)) h4 k (by omega)
/-- The least of the least sides lies in all of them. -/
theorem core_ex {M : List Ed} (h : NonNeg M) {s t : Int} (hst : s ≠ t) (n : Nat) : ∃ S, LeastS M s t S ∧ ∀ T, LeastS M s t T → ∀ k : Nat, k < n → S k = true → T k = true := by
  obtain ⟨w, ⟨S0, hp, e⟩, hl⟩ := lam_ex h hst
  have h0 : ∃ k, ∃ S, LeastS M s t S ∧ cntS S n = k := ⟨_, S0, leastS_of ⟨⟨S0, hp, e⟩, hl⟩ hp e, rfl⟩
  obtain ⟨k, ⟨S, hS, hk⟩, hmin⟩ := least_ex h0
  refine ⟨S, hS, fun T hT j hj hs => ?_⟩
  have ha := (least_and h hS hT).1
  have h1 : cntS (fun v => S v && T v) n ≤ cntS S n := cnt_le fun k _ hk => by simp at hk; exact hk.1
  have h2 := hmin _ ⟨_, ha, rfl⟩
  have h3 := cnt_eq (S := fun v => S v && T v) (T := S) (n := n) (fun k _ hk => by simp at hk; exact hk.1) (by omega) j hj
  rw [hs] at h3
  simp only [Bool.true_and] at h3
  exact h3
/-- There is just one such side, as far as there are vertices. -/
theorem core_one {M : List Ed} {s t : Int} {n : Nat} {S S' : Int → Bool} (h : LeastS M s t S ∧ ∀ T, LeastS M s t T → ∀ k : Nat, k < n → S k = true → T k = true) (h' : LeastS M s t S' ∧ ∀ T, LeastS M s t T → ∀ k : Nat, k < n → S' k = true → T k = true) :
    ∀ k : Nat, k < n → S k = S' k := by
  intro k hk
  have h1 := h.2 S' h'.1 k hk
  have h2 := h'.2 S h.1 k hk
  cases hs : S k with
  | true => exact (h1 hs).symm
  | false =>
    cases hs' : S' k with
    | false => rfl
    | true => rw [h2 hs'] at hs; cases hs
/-- Of three vertices the two least cuts weigh the same: the least between two is no less than the less one of both others. -/
theorem lam_three {M : List Ed} {a b c x y z : Int} (h1 : IsLam M a b x) (h2 : IsLam M b c y) (h3 : IsLam M a c z) : min x y ≤ z := by
  obtain ⟨⟨S, hS, e⟩, -⟩ := h3
  cases hb : S b with
  | true => have := h2.2 S ⟨hb, hS.2⟩; omega
  | false => have := h1.2 S ⟨hS.1, hb⟩; omega
end Go.Proofs.YtceejjgmepaonaaDoor.CutPure
/- Sides, plainly: whether numbers are one, what crosses one, and weighs, all others, the normal form. No program in sight. -/
namespace Go.Proofs.YtceejjgmepaonaaDoor.SdPure
open EdPure NtPure CutPure
def inS (l : List Int) (v : Int) : Bool := decide (v ∈ l)
theorem inS_iff {l : List Int} {v : Int} : inS l v = true ↔ v ∈ l := by unfold inS; exact decide_eq_true_iff
/-- Rising numbers of vertices. -/
def RightS (n : Int) (l : List Int) : Prop := (∀ v ∈ l, 0 ≤ v ∧ v < n) ∧ l.Pairwise (· < ·)
instance (n : Int) (l : List Int) : Decidable (RightS n l) := by unfold RightS; infer_instance
def chkS (n : Int) (l : List Int) : Int := if RightS n l then (if l = [] ∨ (l.length : Int) = n then 16 else 0) else 4
theorem chkS_rng (n : Int) (l : List Int) : chkS n l = 0 ∨ chkS n l = 4 ∨ chkS n l = 16 := by unfold chkS; split <;> (try split) <;> simp
theorem chkS_ok {n : Int} {l : List Int} (h : chkS n l = 0) : RightS n l ∧ l ≠ [] ∧ (l.length : Int) ≠ n := by
  unfold chkS at h
  by_cases h1 : RightS n l
  · rw [if_pos h1] at h
    by_cases h2 : l = [] ∨ (l.length : Int) = n
    · rw [if_pos h2] at h; cases h
    · exact ⟨h1, fun e => h2 (Or.inl e), fun e => h2 (Or.inr e)⟩
  · rw [if_neg h1] at h; cases h
/-- One more that may be. -/
theorem right_snoc {n : Int} {l : List Int} {x : Int} : RightS n (l ++ [x]) ↔ RightS n l ∧ (0 ≤ x ∧ x < n) ∧ ∀ y, l.getLast? = some y → y < x := by
  unfold RightS
  rw [List.pairwise_append]
  constructor
  · rintro ⟨h1, h2, -, h3⟩
    exact ⟨⟨fun v hv => h1 v (by simp [hv]), h2⟩, h1 x (by simp), fun y hy => h3 y (List.mem_of_getLast? hy) x (by simp)⟩
  · rintro ⟨⟨h1, h2⟩, h3, h4⟩
    refine ⟨fun v hv => ?_, h2, by simp, fun a ha b hb => ?_⟩
    · rcases List.mem_append.1 hv with hv | hv
      · exact h1 v hv
      · rw [List.mem_singleton.1 hv]; exact h3
    · rw [List.mem_singleton.1 hb]
      cases hl : l.getLast? with
      | none => rw [List.getLast?_eq_none_iff] at hl; rw [hl] at ha; simp at ha
      | some y =>
        have hy := h4 y hl
        obtain ⟨l', rfl⟩ := List.getLast?_eq_some_iff.1 hl
        rcases List.mem_append.1 ha with ha | ha
        · have := (List.pairwise_append.1 h2).2.2 a ha y (by simp)
          omega
        · rw [List.mem_singleton.1 ha]; exact hy
theorem right_take {n : Int} {l : List Int} (h : RightS n l) (k : Nat) : RightS n (l.take k) := ⟨fun v hv => h.1 v (List.mem_of_mem_take hv), h.2.sublist (List.take_sublist k l)⟩
theorem take_one {l : List Int} {k : Nat} (hk : k < l.length) : l.take (k + 1) = l.take k ++ [l[k]] := by rw [List.take_add_one, List.getElem?_eq_getElem hk]; rfl
theorem take_last {l : List Int} {k : Nat} (hk : k < l.length) : (l.take (k + 1)).getLast? = some l[k] := by rw [take_one hk, List.getLast?_concat]
/-- A number more: it may be, or it may not. -/
theorem right_next {n : Int} {l : List Int} {k : Nat} (hk : k < l.length) (h : RightS n (l.take k)) : RightS n (l.take (k + 1)) ↔ (0 ≤ l[k] ∧ l[k] < n) ∧ (∀ hk0 : 0 < k, l[k - 1]'(by omega) < l[k]) := by
  rw [take_one hk, right_snoc]
  constructor
  · rintro ⟨-, h2, h3⟩
    refine ⟨h2, fun hk0 => h3 _ ?_⟩
    have := take_last (l := l) (k := k - 1) (by omega)
    rwa [show k - 1 + 1 = k by omega] at this
  · rintro ⟨h2, h3⟩
    refine ⟨h, h2, fun y hy => ?_⟩
    by_cases hk0 : 0 < k
    · have := take_last (l := l) (k := k - 1) (by omega)
      rw [show k - 1 + 1 = k by omega, hy] at this
      rw [Option.some.inj this]; exact h3 hk0
    · have : k = 0 := by omega
      subst this; simp at hy
theorem chk_bad {n : Int} {l : List Int} {k : Nat} (h : ¬ RightS n (l.take k)) : chkS n l = 4 := by unfold chkS; rw [if_neg (fun e => h (right_take e k))]
theorem chk_good {n : Int} {l : List Int} (h : RightS n l) : chkS n l = if l = [] ∨ (l.length : Int) = n then 16 else 0 := by unfold chkS; rw [if_pos h]
/-- The numbers of the first k edges that cross. -/
def crossL (M : List Ed) (S : Int → Bool) : Nat → List Int
  | 0 => []
  | k + 1 => crossL M S k ++ (match M[k]? with | some e => if crossB S e = true then [(k : Int)] else [] | none => [])
theorem cross_succ {M : List Ed} (S : Int → Bool) {k : Nat} (hk : k < M.length) : crossL M S (k + 1) = crossL M S k ++ (if crossB S M[k] = true then [(k : Int)] else []) := by
  show crossL M S k ++ (match M[k]? with | some e => if crossB S e = true then [(k : Int)] else [] | none => []) = _
  rw [List.getElem?_eq_getElem hk]
theorem cross_mem {M : List Ed} {S : Int → Bool} {x : Int} : ∀ {k : Nat}, k ≤ M.length → x ∈ crossL M S k → 0 ≤ x ∧ x < k := by
  intro k
  induction k with
  | zero => intro _ hx; simp [crossL] at hx
  | succ k ih =>
    intro hk hx
    rw [cross_succ S (by omega)] at hx
    rcases List.mem_append.1 hx with hx | hx
    · have := ih (by omega) hx; omega
    · split at hx
      · rw [List.mem_singleton] at hx; omega
      · simp at hx
theorem cross_len (M : List Ed) (S : Int → Bool) : ∀ {k : Nat}, k ≤ M.length → (crossL M S k).length ≤ k := by
  intro k
  induction k with
  | zero => intro _; exact Nat.le_refl _
  | succ k ih =>
    intro hk
    have := ih (by omega)
    rw [cross_succ S (by omega), List.length_append]
    split <;> simp <;> omega
/-- What edges of these numbers weigh. -/
def wtN (M : List Ed) (x : Int) : Int := (M.getD x.toNat (0, 0, 0)).2.2
def wtL (M : List Ed) (c : List Int) : Int := (c.map (wtN M)).sum
theorem wt_snoc (M : List Ed) (c : List Int) (x : Int) : wtL M (c ++ [x]) = wtL M c + wtN M x := by unfold wtL; simp
theorem wt_cross {M : List Ed} (S : Int → Bool) : ∀ {k : Nat}, k ≤ M.length → wtL M (crossL M S k) = cutW (M.take k) S := by
  intro k
  induction k with
  | zero => intro _; rfl
  | succ k ih =>
    intro hk
    have hk' : k < M.length := by omega
    have e : M.take (k + 1) = M.take k ++ [M[k]] := by rw [List.take_add_one, List.getElem?_eq_getElem hk']; rfl
    rw [cross_succ S hk', e, cut_snoc, ← ih (by omega)]
    unfold crE
    by_cases hc : crossB S M[k] = true
    · rw [if_pos hc, if_pos hc, wt_snoc]
      unfold wtN
      rw [List.getD_eq_getElem?_getD, Int.toNat_natCast, List.getElem?_eq_getElem hk']
      rfl
    · rw [if_neg hc, if_neg hc, List.append_nil]; omega
theorem wt_all {M : List Ed} (S : Int → Bool) : wtL M (crossL M S M.length) = cutW M S := by rw [wt_cross S (Nat.le_refl _), List.take_length]
/-- All below k that are not among these. -/
def othL (l : List Int) : Nat → List Int
  | 0 => []
  | k + 1 => othL l k ++ (if inS l k = true then [] else [(k : Int)])
theorem oth_len (l : List Int) (k : Nat) : (othL l k).length ≤ k := by
  induction k with
  | zero => exact Nat.le_refl _
  | succ k ih => unfold othL; rw [List.length_append]; split <;> simp <;> omega
theorem oth_mem (l : List Int) (v : Int) (k : Nat) : v ∈ othL l k ↔ (0 ≤ v ∧ v < k) ∧ v ∉ l := by
  induction k with
  | zero => simp [othL]; omega
  | succ k ih =>
    unfold othL
    rw [List.mem_append, ih]
    by_cases hk : inS l k = true
    · rw [if_pos hk]
      have := inS_iff.1 hk
      constructor
      · rintro (⟨h1, h2⟩ | h)
        · exact ⟨by omega, h2⟩
        · simp at h
      · rintro ⟨h1, h2⟩
        refine Or.inl ⟨?_, h2⟩
        by_cases e : v = k
        · rw [e] at h2; exact absurd this h2
        · omega
    · rw [if_neg hk, List.mem_singleton]
      constructor
      · rintro (⟨h1, h2⟩ | h)
        · exact ⟨by omega, h2⟩
        · exact ⟨by omega, by rw [h]; exact fun e => hk (inS_iff.2 e)⟩
      · rintro ⟨h1, h2⟩
        by_cases e : v = k
        · exact Or.inr e
        · exact Or.inl ⟨by omega, h2⟩
def normL (n : Int) (l : List Int) : List Int := if inS l 0 = true then othL l n.toNat else l
def partsB (n : Int) (l : List Int) (u v : Int) : Bool := decide (chkS n l = 0) && (decide (0 ≤ u) && (decide (u < n) && (decide (0 ≤ v) && (decide (v < n) && (inS l u != inS l v)))))
theorem parts_symm (n : Int) (l : List Int) (u v : Int) : partsB n l u v = partsB n l v u := by
  unfold partsB
  cases decide (chkS n l = 0) <;> cases decide (0 ≤ u) <;> cases decide (u < n) <;> cases decide (0 ≤ v) <;> cases decide (v < n) <;> cases inS l u <;> cases inS l v <;> rfl
/-- A side and its other side weigh the same. -/
theorem oth_cut {n : Nat} {M : List Ed} (h : GoodN n M) (l : List Int) : cutW M (inS (othL l n)) = cutW M (inS l) := by
  rw [← cut_not M (inS l)]
  refine cut_same h fun v v0 v1 => ?_
  unfold inS
  by_cases hv : v ∈ l
  · rw [decide_eq_true hv, decide_eq_false (fun e => ((oth_mem l v n).1 e).2 hv)]; rfl
  · rw [decide_eq_false hv, decide_eq_true ((oth_mem l v n).2 ⟨⟨v0, v1⟩, hv⟩)]; rfl
end Go.Proofs.YtceejjgmepaonaaDoor.SdPure
