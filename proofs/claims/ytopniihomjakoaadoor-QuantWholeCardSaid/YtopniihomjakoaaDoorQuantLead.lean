/- Plain facts on what leads back: by its own step a list is whole, or beyond what there is room for; what was scaled leads back, but for -0; with a greater step it does not fit. No program in sight. -/
import Derived.Test.YtopniihomjakoaaDoorQuantPure
namespace Go.Proofs.YtopniihomjakoaaDoor.QuantPure
open Go.RowKit FbitPure
theorem make_up (neg : Bool) (m u : Nat) (k : Int) (h0 : m ≠ 0) (h : m * 2 ^ u < 18446744073709551616) : makeW neg (m * 2 ^ u) k = makeW neg m (k + u) ∧ makeOk (m * 2 ^ u) k = makeOk m (k + u) := by
  obtain ⟨o1, o2⟩ := od_double m u h0 h
  have hz : m * 2 ^ u ≠ 0 := Nat.mul_ne_zero h0 (by have := Nat.two_pow_pos u; omega)
  have e : k + ((tz m + u : Nat) : Int) = k + (u : Int) + (tz m : Int) := by omega
  have hok : makeOk (m * 2 ^ u) k = makeOk m (k + u) := by
    unfold makeOk
    rw [o1, o2, e, decide_eq_false hz, decide_eq_false h0]
  refine ⟨?_, hok⟩
  unfold makeW
  rw [hok, o1, o2, e, if_neg hz, if_neg h0]
theorem part_some (b : Nat) (h : 3 ≤ kindN b) : partM b ≠ 0 := by
  have hs := sig_lt b
  have hs0 : sig b ≠ 0 := by
    unfold sig
    rcases kind_cases b with ⟨h1, h2, h3⟩ | ⟨h1, h2, h3⟩ | ⟨h1, h2, h3⟩ | ⟨h1, h2, h3⟩ | ⟨h1, h2, h3⟩ <;> split <;> omega
  have := (od_spec (sig b) hs0 (by omega)).2.1
  have hM : partM b = od (sig b) := if_pos h
  omega
theorem part_zero (b : Nat) (h : ¬ 3 ≤ kindN b) : partM b = 0 := if_neg h
/-- What was scaled leads back, but for -0. -/
theorem lead_back (b : Nat) (k : Int) (hb : b < 18446744073709551616) (h : cntE k b = 0) :
    makeOk (cntN k b).natAbs k = true ∧ (backW k (cntN k b) = b ∨ b = 9223372036854775808) := by
  have hok : partOk b = true := by
    rcases noE_cases b with ⟨_, g, h3, _⟩ | ⟨_, g, h3, _⟩ | ⟨_, _, g⟩
    · rw [(cnt_no k b h3).1] at h; omega
    · rw [(cnt_no k b h3).1] at h; omega
    · exact g
  obtain ⟨q1, q2⟩ := cnt_ok k b hok
  rw [q1] at h
  rw [q2]
  by_cases h3 : 3 ≤ kindN b
  · have hm0 := part_some b h3
    have hk : k ≤ partE b := by
      refine Int.not_lt.1 fun hc => ?_
      have := (steps_frac (negB b) (partM b) (partE b) k hm0 hc).1
      omega
    have hr : partM b * 2 ^ (partE b - k).toNat ≤ roomN (negB b) := by
      refine Nat.le_of_not_lt fun hc => ?_
      have := (steps_wide (negB b) (partM b) (partE b) k hm0 hk hc).1
      omega
    rw [(steps_fit (negB b) (partM b) (partE b) k hm0 hk hr).2]
    have hroom := room_cases (negB b)
    have h64 : partM b * 2 ^ (partE b - k).toNat < 18446744073709551616 := by omega
    have hpos : partM b * 2 ^ (partE b - k).toNat ≠ 0 := Nat.mul_ne_zero hm0 (by have := Nat.two_pow_pos (partE b - k).toNat; omega)
    have e1 : (farN (negB b) (partM b * 2 ^ (partE b - k).toNat)).natAbs = partM b * 2 ^ (partE b - k).toNat := by
      unfold farN; split <;> omega
    have e2 : decide (farN (negB b) (partM b * 2 ^ (partE b - k).toNat) < 0) = negB b := by
      unfold farN
      cases negB b
      · simp only [Bool.false_eq_true, if_false]; exact decide_eq_false (by omega)
      · simp only [if_true]; exact decide_eq_true (by omega)
    obtain ⟨u1, u2⟩ := make_up (negB b) (partM b) (partE b - k).toNat k hm0 h64
    obtain ⟨b1, b2⟩ := back_word b hb hok
    have e3 : k + ((partE b - k).toNat : Int) = partE b := by omega
    have hlt := make_lt (negB b) (partM b) (partE b) (by have := (part_bounds b).1; omega)
    rw [e1, u2, e3]
    refine ⟨b1, Or.inl ?_⟩
    unfold backW
    rw [e1, e2, u1, e3, ← hlt.2]
    exact b2
  · have hm0 := part_zero b h3
    rw [hm0, (steps_nought (negB b) (partE b) k).2]
    refine ⟨(make_nought false k).2, ?_⟩
    have hk2 : 2 ≤ kindN b := by unfold partOk at hok; simpa using hok
    have hw := word_eq b hb
    have hz : eN b = 0 ∧ fN b = 0 := by
      rcases kind_cases b with ⟨h1, h2, h3⟩ | ⟨h1, h2, h3⟩ | ⟨h1, h2, h3⟩ | ⟨h1, h2, h3⟩ | ⟨h1, h2, h3⟩ <;> omega
    rw [hz.1, hz.2] at hw
    have e0 : backW k 0 = 0 := (make_nought false k).1
    rw [e0]
    cases ht : topB b
    · left; rw [ht] at hw; rw [hw]; rfl
    · right; rw [ht] at hw; rw [hw]; rfl
theorem first_mem {α : Type} (E : α → Int) (l : List α) (h : errAt E l ≠ 0) : ∃ x ∈ l, E x = errAt E l := by
  have hne : firstBad E l ≠ l.length := fun hc => h ((err_iff E l).2 hc)
  have hlt : firstBad E l < l.length := by have := first_le E l; omega
  exact ⟨l[firstBad E l], List.getElem_mem hlt, (err_bad E l _ hlt rfl).1.symm⟩
theorem all_of_err {α : Type} (E : α → Int) (l : List α) (h : errAt E l = 0) : ∀ x ∈ l, E x = 0 := all_first E l ((err_iff E l).1 h)
theorem err_of_mem {α : Type} (E : α → Int) (l : List α) (x : α) (hx : x ∈ l) (h : E x ≠ 0) : errAt E l ≠ 0 := fun hc => h (all_of_err E l hc x hx)
/-- What has no step has no numbers of steps. -/
theorem bad_both (l : List Nat) (k : Int) (h : errAt noE l ≠ 0) : errAt (cntE k) l ≠ 0 := by
  obtain ⟨x, hx, he⟩ := first_mem noE l h
  have hne : noE x ≠ 0 := by rw [he]; exact h
  exact err_of_mem (cntE k) l x hx (by rw [cnt_err k x hne]; exact hne)
/-- By its own step a list is whole, or beyond what there is room for. -/
theorem whole_err (l : List Nat) (h : errAt noE l = 0) : errAt (cntE (stepK l)) l = 0 ∨ errAt (cntE (stepK l)) l = 10 := by
  by_cases hc : errAt (cntE (stepK l)) l = 0
  · exact Or.inl hc
  · right
    obtain ⟨x, hx, he⟩ := first_mem _ l hc
    rw [← he] at hc ⊢
    have hno := all_of_err noE l h x hx
    rw [(cnt_fneg (stepK l) x hno).1] at hc ⊢
    have hk : stepK l = (fold l).1 := if_pos ((err_iff noE l).1 h)
    unfold stepsE at hc ⊢
    by_cases h0 : partM x = 0
    · rw [if_pos h0] at hc; exact absurd rfl hc
    · have := fold_least l x hx h0
      rw [if_neg h0, if_neg (by omega)] at hc ⊢
      split at hc
      · exact absurd rfl hc
      · rename_i hw
        rw [if_neg hw]
/-- With a greater step a list that is not all noughts does not fit. -/
theorem whole_far (l : List Nat) (h : errAt noE l = 0) (x : Nat) (hx : x ∈ l) (hk : 2 < kindN x) (j : Int) (hj : 0 < j) : errAt (cntE (stepK l + j)) l ≠ 0 := by
  obtain ⟨y, hy, hm, he⟩ := fold_some l x hx (part_some x (by omega))
  have hk : stepK l = (fold l).1 := if_pos ((err_iff noE l).1 h)
  refine err_of_mem _ l y hy ?_
  rw [(cnt_fneg _ y (all_of_err noE l h y hy)).1, (steps_frac _ _ _ _ hm (by omega)).1]
  decide
theorem leads (l : List Nat) (hr : ∀ i (h : i < l.length), (l[i] : Int) ≤ 18446744073709551615) (k : Int) (h : errAt (cntE k) l = 0) :
    backOk k (cnts k l) = true ∧ ∃ hl : (backs k (cnts k l)).length = l.length, ∀ i (hi : i < l.length), (backs k (cnts k l))[i] = l[i] ∨ l[i] = 9223372036854775808 := by
  have hc : cnts k l = l.map (cntN k) := if_pos ((err_iff _ l).1 h)
  have hall := all_of_err (cntE k) l h
  have hf : firstBad (backE k) (cnts k l) = (cnts k l).length := by
    refine first_all _ _ fun n hn => ?_
    rw [hc] at hn
    obtain ⟨x, hx, rfl⟩ := List.mem_map.1 hn
    obtain ⟨i, hi, rfl⟩ := List.getElem_of_mem hx
    have := hr i hi
    exact (backE_iff k _).2 (lead_back l[i] k (by omega) (hall _ hx)).1
  have hb : backs k (cnts k l) = (cnts k l).map (backW k) := if_pos hf
  refine ⟨decide_eq_true hf, by rw [hb, hc]; simp, fun i hi => ?_⟩
  have := hr i hi
  have hlb := (lead_back l[i] k (by omega) (hall _ (List.getElem_mem hi))).2
  have hb2 : backs k (cnts k l) = l.map (fun x => backW k (cntN k x)) := by rw [hb, hc, List.map_map]; rfl
  have e : (backs k (cnts k l))[i]'(by rw [hb2]; simpa using hi) = backW k (cntN k l[i]) := by
    simp only [hb2, List.getElem_map]
  rw [e]
  exact hlb
theorem cnts_rng (l : List Nat) (k : Int) : ∀ i (h : i < (cnts k l).length), -9223372036854775808 ≤ (cnts k l)[i] ∧ (cnts k l)[i] ≤ 9223372036854775807 := by
  intro i h
  have hmem := List.getElem_mem h
  generalize (cnts k l)[i] = n at hmem
  unfold cnts at hmem
  split at hmem
  · obtain ⟨x, _, rfl⟩ := List.mem_map.1 hmem
    exact cntN_room k x
  · simp at hmem
/-- Whether there is one that is not nought. -/
def anyN (l : List Nat) : Bool := l.any fun x => decide (2 < kindN x)
theorem anyN_snoc (l : List Nat) (x : Nat) : anyN (l ++ [x]) = (anyN l || decide (2 < kindN x)) := by unfold anyN; simp
theorem anyN_far (l : List Nat) (h : errAt noE l = 0) (ha : anyN l = true) (j : Int) (hj : 0 < j) : (errAt (cntE (stepK l + j)) l == 0) = false := by
  unfold anyN at ha
  obtain ⟨x, hx, hk⟩ := List.any_eq_true.1 ha
  have := whole_far l h x hx (by simpa using hk) j hj
  simpa using this
end Go.Proofs.YtopniihomjakoaaDoor.QuantPure
