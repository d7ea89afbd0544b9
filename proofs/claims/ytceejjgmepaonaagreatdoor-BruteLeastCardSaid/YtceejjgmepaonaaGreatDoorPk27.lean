/- Texts that the laws of this seat stand on, part 27. -/
import Derived.Test.YtceejjgmepaonaaGreatDoorPk5
import Derived.Test.YtceejjgmepaonaaGreatDoorPk25
import Derived.Test.YtceejjgmepaonaaGreatDoorPk26
import Derived.Test.YtceejjgmepaonaaGreatDoorPk6
/- What comes out of the sides one by one, in the walk's order, is what comes out of all sides in order, plainly: the least, the first of the least, how many, all of a weight, the least between two and what those share, the matrix. No program in sight. -/
namespace Go.Proofs.YtceejjgmepaonaaGreatDoor.BgRes
open Go.RowKit EdPure NtPure CutPure SdPure BrPure BrGray VsetPure BgPure Br
/-- The groups met in i steps; the groups in order. -/
def gL (i : Nat) : List Nat := (List.range i).map fun j => gaG (j + 1)
def sG (K : Nat) : List Nat := (List.range K).map fun j => 2 * (j + 1)
theorem gL_succ (i : Nat) : gL (i + 1) = gL i ++ [gaG (i + 1)] := by unfold gL; rw [List.range_succ, List.map_append]; rfl
theorem sG_succ (i : Nat) : sG (i + 1) = sG i ++ [2 * (i + 1)] := by unfold sG; rw [List.range_succ, List.map_append]; rfl
theorem gL_len (i : Nat) : (gL i).length = i := by unfold gL; simp
theorem sG_rises (K : Nat) : (sG K).Pairwise (· < ·) := by
  unfold sG
  rw [List.pairwise_map]
  exact (List.pairwise_lt_range (n := K)).imp fun h => by omega
theorem sG_mem {K g : Nat} : g ∈ sG K ↔ ∃ j, j < K ∧ g = 2 * (j + 1) := by
  unfold sG
  rw [List.mem_map]
  constructor
  · rintro ⟨j, hj, rfl⟩; exact ⟨j, List.mem_range.1 hj, rfl⟩
  · rintro ⟨j, hj, rfl⟩; exact ⟨j, List.mem_range.2 hj, rfl⟩
theorem sG_lt {N g : Nat} (hN : 1 ≤ N) (h : g ∈ sG (2 ^ (N - 1) - 1)) : g < 2 ^ N := by
  obtain ⟨j, hj, rfl⟩ := sG_mem.1 h
  have e : 2 ^ N = 2 ^ (N - 1) * 2 := by rw [← Nat.pow_succ]; congr 1; omega
  omega
/-- Both are the same groups. -/
theorem gL_perm (k : Nat) : (gL (2 ^ k - 1)).Perm (sG (2 ^ k - 1)) := by
  have hp := Nat.two_pow_pos k
  refine (List.perm_ext_iff_of_nodup ?_ ?_).2 fun g => ?_
  · unfold gL
    rw [List.nodup_iff_pairwise_ne, List.pairwise_map]
    exact (List.nodup_range (n := 2 ^ k - 1)).imp fun hne e => hne (by
      have := gray_inj (i := _ + 1) (j := _ + 1) (by unfold gaG at e; exact Nat.eq_of_mul_eq_mul_left (by decide : 0 < 2) e)
      omega)
  · exact (sG_rises _).imp fun h => Nat.ne_of_lt h
  · rw [sG_mem]
    unfold gL
    rw [List.mem_map]
    constructor
    · rintro ⟨j, hj, rfl⟩
      have hj' := List.mem_range.1 hj
      have h1 := gray_lt (i := j + 1) (k := k) (by omega)
      have h2 := gray_pos (i := j + 1) (by omega)
      exact ⟨gray (j + 1) - 1, by omega, by unfold gaG; omega⟩
    · rintro ⟨j, hj, rfl⟩
      obtain ⟨i, hi, e⟩ := gray_all (k := k) (m := j + 1) (by omega)
      have hi0 : i ≠ 0 := fun h => by rw [h, gray_zero] at e; omega
      exact ⟨i - 1, List.mem_range.2 (by omega), by unfold gaG; rw [show i - 1 + 1 = i by omega, e]⟩
theorem all_sG {N : Nat} (hN : N ≤ 32) : allS N = (sG (2 ^ (N - 1) - 1)).map grpL := by
  have : ∀ j, j ≤ 2 ^ (N - 1) - 1 → sideL N j = (sG j).map grpL := by
    intro j
    induction j with
    | zero => intro _; rfl
    | succ j ih =>
      intro hj
      rw [sG_succ, List.map_append, ← ih (by omega)]
      show sideL N j ++ [bitS (j + 1) (N - 1)] = _
      rw [List.map_cons, List.map_nil, grp_bit (m := j + 1) (k := N - 1) (by omega) (by omega)]
  exact this _ (Nat.le_refl _)
/-- What a group weighs. -/
def cG (M : List Ed) (g : Nat) : Int := cutW M (inS (grpL g))
theorem wG_cG (M : List Ed) (i : Nat) : wG M i = cG M (gaG i) := rfl
theorem cG_pos {n : Int} {M : List Ed} (h : GoodN n M) (g : Nat) : 0 ≤ cG M g ∧ cG M g ≤ 2251799813685248 := ⟨cut_nonneg h.non _, Int.le_trans (cut_le_all h.non _) h.2.2⟩
/-! ### The least of those asked for -/
def ltStep (A : Nat → Bool) (M : List Ed) (p : Int × List Nat) (g : Nat) : Int × List Nat :=
  if p.1 < cG M g then p else if A g = false then p else if cG M g < p.1 then (cG M g, [g]) else (p.1, p.2 ++ [g])
def ltF (A : Nat → Bool) (M : List Ed) : Nat → Int × List Nat
  | 0 => (9223372036854775807, [])
  | i + 1 => ltStep A M (ltF A M i) (gaG (i + 1))
def LtOk (A : Nat → Bool) (M : List Ed) (L : List Nat) (p : Int × List Nat) : Prop :=
  p.2 = L.filter (fun g => A g && decide (cG M g = p.1)) ∧ (∀ g ∈ L, A g = true → p.1 ≤ cG M g) ∧ (p.1 = 9223372036854775807 ∨ ∃ g ∈ L, A g = true ∧ cG M g = p.1)
theorem lt_ok (A : Nat → Bool) (M : List Ed) : ∀ i, LtOk A M (gL i) (ltF A M i)
  | 0 => ⟨rfl, fun g hg => by simp [gL] at hg, Or.inl rfl⟩
  | i + 1 => by
    obtain ⟨h1, h2, h3⟩ := lt_ok A M i
    rw [gL_succ]
    show LtOk A M _ (ltStep A M (ltF A M i) (gaG (i + 1)))
    generalize ltF A M i = p at *
    generalize gaG (i + 1) = x at *
    generalize gL i = L at *
    obtain ⟨b, l⟩ := p
    simp only at h1 h2 h3
    have h4 : (b = 9223372036854775807 ∨ ∃ g ∈ L ++ [x], A g = true ∧ cG M g = b) := h3.imp id (fun ⟨g, a, b⟩ => ⟨g, by simp [a], b⟩)
    unfold ltStep
    by_cases c1 : b < cG M x
    · rw [if_pos c1]
      refine ⟨?_, fun g hg ha => ?_, h4⟩
      · rw [List.filter_append]
        have : decide (cG M x = b) = false := decide_eq_false (by omega)
        simp [h1, this]
      · rcases List.mem_append.1 hg with hg | hg
        · exact h2 g hg ha
        · rw [List.mem_singleton.1 hg]; exact Int.le_of_lt c1
    · rw [if_neg c1]
      by_cases c2 : A x = false
      · rw [if_pos c2]
        refine ⟨?_, fun g hg ha => ?_, h4⟩
        · rw [List.filter_append]
          simp [h1, c2]
        · rcases List.mem_append.1 hg with hg | hg
          · exact h2 g hg ha
          · rw [List.mem_singleton.1 hg, c2] at ha; cases ha
      · rw [if_neg c2]
        have c2' : A x = true := by simpa using c2
        by_cases c3 : cG M x < b
        · rw [if_pos c3]
          refine ⟨?_, fun g hg ha => ?_, Or.inr ⟨x, by simp, c2', rfl⟩⟩
          · rw [List.filter_append]
            have hn : L.filter (fun g => A g && decide (cG M g = cG M x)) = [] := by
              rw [List.filter_eq_nil_iff]
              intro g hg ha
              rw [Bool.and_eq_true, decide_eq_true_eq] at ha
              have := h2 g hg ha.1
              omega
            simp only at hn ⊢
            rw [hn]
            simp [c2']
          · rcases List.mem_append.1 hg with hg | hg
            · have := h2 g hg ha; show cG M x ≤ _; omega
            · rw [List.mem_singleton.1 hg]; exact Int.le_refl _
        · rw [if_neg c3]
          have ce : cG M x = b := by omega
          refine ⟨?_, fun g hg ha => ?_, h4⟩
          · rw [List.filter_append]
            simp [h1, c2', ce]
          · rcases List.mem_append.1 hg with hg | hg
            · exact h2 g hg ha
            · rw [List.mem_singleton.1 hg, ce]; exact Int.le_refl _
theorem lt_len (A : Nat → Bool) (M : List Ed) (i : Nat) : (ltF A M i).2.length ≤ i := by
  rw [(lt_ok A M i).1]
  have := List.length_filter_le (fun g => A g && decide (cG M g = (ltF A M i).1)) (gL i)
  rwa [gL_len] at this
theorem lt_in {A : Nat → Bool} {M : List Ed} {i g : Nat} (h : g ∈ (ltF A M i).2) : g ∈ gL i := by
  rw [(lt_ok A M i).1] at h
  exact (List.mem_filter.1 h).1
theorem lt_rng {n : Int} {M : List Ed} (h : GoodN n M) (A : Nat → Bool) (i : Nat) : 0 ≤ (ltF A M i).1 ∧ (ltF A M i).1 ≤ 9223372036854775807 := by
  rcases (lt_ok A M i).2.2 with e | ⟨g, -, -, e⟩
  · rw [e]; omega
  · have := cG_pos h g; omega
theorem gL_ltN {N : Nat} (hN : 1 ≤ N) {g i : Nat} (hi : i ≤ 2 ^ (N - 1) - 1) (h : g ∈ gL i) : g < 2 ^ N := by
  unfold gL at h
  obtain ⟨j, hj, rfl⟩ := List.mem_map.1 h
  have hp := Nat.two_pow_pos (N - 1)
  have := ga_lt (i := j + 1) (k := N - 1) (by have := List.mem_range.1 hj; omega)
  rwa [show N - 1 + 1 = N by omega] at this
/-! ### The first of the least, as the document has it -/
theorem least_first (M : List Ed) : ∀ X : List Nat, X.Pairwise (· < ·) → X = [] ∨ ∃ g ∈ X, leastB M (X.map grpL) = some (cG M g, grpL g) ∧ ∀ y ∈ X, cG M g ≤ cG M y ∧ (cG M y = cG M g → g ≤ y) := by
  intro X
  have key : ∀ k, k ≤ X.length → X.Pairwise (· < ·) → k = 0 ∨ ∃ g ∈ X.take k, leastB M ((X.take k).map grpL) = some (cG M g, grpL g) ∧ ∀ y ∈ X.take k, cG M g ≤ cG M y ∧ (cG M y = cG M g → g ≤ y) := by
    intro k
    induction k with
    | zero => intro _ _; exact Or.inl rfl
    | succ k ih =>
      intro hk hX
      right
      have e : leastB M ((X.take (k + 1)).map grpL) = stepB M (leastB M ((X.take k).map grpL)) (grpL X[k]) := by
        rw [List.take_succ_eq_append_getElem (by omega), List.map_append]
        unfold leastB
        rw [List.foldl_append]
        rfl
      have hm : ∀ y, y ∈ X.take (k + 1) ↔ y ∈ X.take k ∨ y = X[k] := fun y => by
        rw [List.take_succ_eq_append_getElem (by omega), List.mem_append, List.mem_singleton]
      rcases ih (by omega) hX with h0 | ⟨g, g1, g2, g3⟩
      · subst h0
        refine ⟨X[0], by rw [hm]; exact Or.inr rfl, by rw [e]; rfl, fun y hy => ?_⟩
        rcases (hm y).1 hy with h | rfl
        · simp at h
        · exact ⟨Int.le_refl _, fun _ => Nat.le_refl _⟩
      · have hgl : g < X[k] := by
          have := (List.pairwise_append.1 (by rw [← List.take_append_drop k X] at hX; exact hX)).2.2 g g1 X[k] (by rw [List.mem_iff_getElem]; exact ⟨0, by simp; omega, by simp⟩)
          exact this
        rw [e, g2]
        by_cases hc : cG M X[k] < cG M g
        · refine ⟨X[k], by rw [hm]; exact Or.inr rfl, if_pos hc, fun y hy => ?_⟩
          rcases (hm y).1 hy with h | rfl
          · have := (g3 y h).1; exact ⟨by omega, fun h2 => by omega⟩
          · exact ⟨Int.le_refl _, fun _ => Nat.le_refl _⟩
        · refine ⟨g, by rw [hm]; exact Or.inl g1, if_neg hc, fun y hy => ?_⟩
          rcases (hm y).1 hy with h | rfl
          · exact g3 y h
          · exact ⟨by omega, fun _ => Nat.le_of_lt hgl⟩
  intro hX
  rcases key X.length (Nat.le_refl _) hX with h | h
  · exact Or.inl (List.length_eq_zero_iff.1 h)
  · rw [List.take_length] at h; exact Or.inr h
theorem sG_some {N : Nat} (hN : 2 ≤ N) : 2 ∈ sG (2 ^ (N - 1) - 1) := by
  have := Nat.pow_le_pow_right (n := 2) (by omega) (show 1 ≤ N - 1 by omega)
  exact sG_mem.2 ⟨0, by omega, rfl⟩
def anyA : Nat → Bool := fun _ => true
theorem least_is {N : Nat} {M : List Ed} (hM : GoodN N M) (h2 : 2 ≤ N) (h20 : N ≤ 20) :
    (ltF anyA M (2 ^ (N - 1) - 1)).1 = lsW N M ∧ (ltF anyA M (2 ^ (N - 1) - 1)).2.length = lsC N M ∧
    (∃ g ∈ (ltF anyA M (2 ^ (N - 1) - 1)).2, (∀ y ∈ (ltF anyA M (2 ^ (N - 1) - 1)).2, g ≤ y) ∧ grpL g = lsS N M) := by
  have hs : smallE (N : Int) = 0 := small_zero.2 ⟨h2, h20⟩
  unfold lsW lsS lsC
  rw [if_pos hs, if_pos hs, if_pos hs, all_sG (by omega)]
  obtain ⟨h1, h3, h4⟩ := lt_ok anyA M (2 ^ (N - 1) - 1)
  have hp := gL_perm (N - 1)
  rcases least_first M _ (sG_rises (2 ^ (N - 1) - 1)) with h | ⟨g, g1, g2, g3⟩
  · have := sG_some h2; rw [h] at this; simp at this
  · rw [g2]
    have e : (ltF anyA M (2 ^ (N - 1) - 1)).1 = cG M g := by
      have a := h3 g (hp.mem_iff.2 g1) rfl
      rcases h4 with h4 | ⟨y, y1, -, y2⟩
      · have := cG_pos hM g; omega
      · have := (g3 y (hp.mem_iff.1 y1)).1; omega
    refine ⟨e, ?_, g, ?_, fun y hy => ?_, rfl⟩
    · rw [h1, e]
      unfold pickW
      rw [List.filter_map, List.length_map]
      refine (hp.filter _).length_eq.trans ?_
      rfl
    · rw [h1, e]
      exact List.mem_filter.2 ⟨hp.mem_iff.2 g1, by simp [anyA]⟩
    · rw [h1, e] at hy
      obtain ⟨y1, y2⟩ := List.mem_filter.1 hy
      have : cG M y = cG M g := by simpa [anyA] using y2
      exact (g3 y (hp.mem_iff.1 y1)).2 this
/-! ### All of a weight -/
def alF (M : List Ed) (x : Int) (i : Nat) : List Nat := (gL i).filter fun g => decide (cG M g = x)
theorem alF_succ (M : List Ed) (x : Int) (i : Nat) : alF M x (i + 1) = if cG M (gaG (i + 1)) = x then alF M x i ++ [gaG (i + 1)] else alF M x i := by
  unfold alF
  rw [gL_succ, List.filter_append]
  by_cases h : cG M (gaG (i + 1)) = x
  · rw [if_pos h]; simp [h]
  · rw [if_neg h]; simp [h]
theorem alF_len (M : List Ed) (x : Int) (i : Nat) : (alF M x i).length ≤ i := by
  have := List.length_filter_le (fun g => decide (cG M g = x)) (gL i)
  rw [gL_len] at this
  exact this
theorem rise_nat : ∀ {a b : List Nat}, a.Pairwise (· < ·) → b.Pairwise (· < ·) → (∀ v, v ∈ a ↔ v ∈ b) → a = b := by
  intro a b h1 h2 h
  exact (List.perm_ext_iff_of_nodup (h1.imp fun h => Nat.ne_of_lt h) (h2.imp fun h => Nat.ne_of_lt h)).2 h |>.eq_of_pairwise (le := (· < ·)) (fun x y _ _ p q => absurd q (by omega)) h1 h2
theorem all_is {N : Nat} {M : List Ed} (h2 : 2 ≤ N) (h20 : N ≤ 20) (x : Int) {S : List Nat} (hS : S.Perm (alF M x (2 ^ (N - 1) - 1))) (hr : S.Pairwise (· ≤ ·)) : S.map grpL = lsA N M x := by
  unfold lsA
  rw [if_pos (small_zero.2 ⟨h2, h20⟩), all_sG (by omega)]
  unfold pickW
  rw [List.filter_map]
  congr 1
  have hp := (gL_perm (N - 1)).filter (fun g => decide (cG M g = x))
  have hp2 : S.Perm ((sG (2 ^ (N - 1) - 1)).filter (fun g => decide (cG M g = x))) := hS.trans hp
  exact hp2.eq_of_pairwise (le := (· ≤ ·)) (fun a b _ _ p q => Nat.le_antisymm p q) hr ((List.Pairwise.filter _ (sG_rises _)).imp fun h => Nat.le_of_lt h)
/-! ### Between two -/
def prA (s t : Nat) : Nat → Bool := fun g => g.testBit s != g.testBit t
/-- The group turned so that t is not in it. -/
def orG (N t g : Nat) : Nat := if g.testBit t = true then othG N g else g
def andG (N t : Nat) (L : List Nat) : Nat := L.foldl (fun r g => r &&& orG N t g) (2 ^ N - 1)
theorem and_bit (N t : Nat) (L : List Nat) (v : Nat) : (andG N t L).testBit v = true ↔ v < N ∧ ∀ g ∈ L, (orG N t g).testBit v = true := by
  have key : ∀ (L : List Nat) (r : Nat), (L.foldl (fun r g => r &&& orG N t g) r).testBit v = true ↔ r.testBit v = true ∧ ∀ g ∈ L, (orG N t g).testBit v = true := by
    intro L
    induction L with
    | nil => intro r; simp
    | cons x L ih =>
      intro r
      rw [List.foldl_cons, ih, Nat.testBit_and, Bool.and_eq_true, List.forall_mem_cons, and_assoc]
  unfold andG
  rw [key, Nat.testBit_two_pow_sub_one, decide_eq_true_eq]
theorem and_step (N t : Nat) (L : List Nat) (x : Nat) : andG N t (L ++ [x]) = andG N t L &&& orG N t x := by unfold andG; rw [List.foldl_append]; rfl
theorem and_lt (N t : Nat) (L : List Nat) : andG N t L < 2 ^ N := by
  refine Nat.lt_pow_two_of_testBit _ fun j hj => ?_
  cases h : (andG N t L).testBit j with
  | false => rfl
  | true => have := ((and_bit N t L j).1 h).1; omega
theorem or_lt {N t g : Nat} (h : g < 2 ^ N) : orG N t g < 2 ^ N := by unfold orG; split; exact oth_lt; exact h
theorem or_in {N s t g v : Nat} (hN : N ≤ 31) (hg : g < 2 ^ N) (hs : s < N) (hp : prA s t g = true) (hv : v < N) : (orG N t g).testBit v = inS (orient N (s : Int) (grpL g)) (v : Int) := by
  unfold prA at hp
  unfold orient orG
  rw [grp_in (by omega)]
  cases b : g.testBit t with
  | true =>
    have b2 : g.testBit s = false := by cases b2 : g.testBit s with
      | false => rfl
      | true => rw [b, b2] at hp; cases hp
    rw [if_pos rfl, b2, if_neg (by decide), oth_bit hg, decide_eq_true hv, inS_oth _ _ ⟨by omega, by omega⟩, grp_in (by omega)]
    rfl
  | false =>
    have b2 : g.testBit s = true := by cases b2 : g.testBit s with
      | true => rfl
      | false => rw [b, b2] at hp; cases hp
    rw [if_neg (by decide), b2, if_pos rfl, grp_in (by omega)]
theorem orient_cut {N : Nat} {M : List Ed} (hM : GoodN N M) (s : Int) (x : List Int) : cutW M (inS (orient N s x)) = cutW M (inS x) := by
  unfold orient
  split
  · rfl
  · exact oth_cut hM x
theorem prA_parted {s t g : Nat} (hs : s < 32) (ht : t < 32) : parted (s : Int) (t : Int) (grpL g) = prA s t g := by
  unfold parted prA
  rw [grp_in hs, grp_in ht]
/-- The least between two, met one by one, and what all of the least share. -/
theorem pair_is {N : Nat} {M : List Ed} (hM : GoodN N M) (h20 : N ≤ 20) {s t : Nat} (hs : s < N) (ht : t < N) (hst : s ≠ t) :
    ∃ c, pairB M N (s : Int) (t : Int) (allS N) = some ((ltF (prA s t) M (2 ^ (N - 1) - 1)).1, c) ∧ c = grpL (andG N t (ltF (prA s t) M (2 ^ (N - 1) - 1)).2) := by
  have hok := pairB_ok M N (s : Int) (t : Int) (allS N)
  obtain ⟨w, c, e, -, -⟩ := pair_core hM ⟨by omega, by omega⟩ ⟨by omega, by omega⟩ (fun h => hst (by omega)) hok
  rw [e] at hok
  obtain ⟨⟨x, x1, x2, x3⟩, y1, z1⟩ := hok
  obtain ⟨h1, h3, h4⟩ := lt_ok (prA s t) M (2 ^ (N - 1) - 1)
  have hp := gL_perm (N - 1)
  rw [all_sG (by omega)] at x1 y1 z1
  simp only [orient_cut hM] at x3 y1 z1
  obtain ⟨g, g1, rfl⟩ := List.mem_map.1 x1
  rw [prA_parted (by omega) (by omega)] at x2
  have ew : (ltF (prA s t) M (2 ^ (N - 1) - 1)).1 = w := by
    have a := h3 g (hp.mem_iff.2 g1) x2
    have b : cG M g = w := x3
    rcases h4 with h4 | ⟨y, yy1, yy2, yy3⟩
    · have := cG_pos hM g; omega
    · have := y1 (grpL y) (List.mem_map_of_mem (hp.mem_iff.1 yy1)) (by rw [prA_parted (by omega) (by omega)]; exact yy2)
      have h5 : cutW M (inS (grpL y)) = cG M y := rfl
      omega
  refine ⟨c, by rw [e, ew], ?_⟩
  have hc : c = sB (pairB M N (s : Int) (t : Int) (allS N)) := by rw [e]; rfl
  have hcr : c.Pairwise (· < ·) := by
    rw [hc]
    exact pairB_rises _ fun l hl => (chkS_ok (all_right hl).1).1.2
  refine CdPure.rise_one hcr (grpL_rises _) fun v => ?_
  rw [← inS_iff, z1 v, ← inS_iff (l := grpL _)]
  constructor
  · intro h
    have hv0 := h (grpL g) (List.mem_map_of_mem g1) (by rw [prA_parted (by omega) (by omega)]; exact x2) x3
    have hv : 0 ≤ v ∧ v < N := by
      unfold orient at hv0
      split at hv0
      · have hm : grpL g ∈ allS N := by rw [all_sG (by omega)]; exact List.mem_map_of_mem g1
        exact (chkS_ok (all_right hm).1).1.1 v (inS_iff.1 hv0)
      · exact ((oth_mem _ v N).1 (inS_iff.1 hv0)).1
    obtain ⟨k, rfl⟩ : ∃ k : Nat, v = (k : Int) := ⟨v.toNat, by omega⟩
    rw [grp_in (by omega)]
    refine (and_bit _ _ _ _).2 ⟨by omega, fun y hy => ?_⟩
    rw [h1, ew] at hy
    obtain ⟨y2, y3⟩ := List.mem_filter.1 hy
    rw [Bool.and_eq_true, decide_eq_true_eq] at y3
    rw [or_in (by omega) (gL_ltN (by omega) (Nat.le_refl _) y2) hs y3.1 (by omega)]
    exact h (grpL y) (List.mem_map_of_mem (hp.mem_iff.1 y2)) (by rw [prA_parted (by omega) (by omega)]; exact y3.1) y3.2
  · intro h y hy hyp hyw
    obtain ⟨y, y2, rfl⟩ := List.mem_map.1 hy
    rw [prA_parted (by omega) (by omega)] at hyp
    obtain ⟨k, hk, rfl⟩ := List.mem_map.1 (inS_iff.1 h)
    have hk2 := (listP_mem.1 hk).2
    obtain ⟨hkN, hall⟩ := (and_bit _ _ _ _).1 hk2
    rw [← or_in (by omega) (sG_lt (by omega) y2) hs hyp hkN]
    refine hall y ?_
    rw [h1, ew]
    refine List.mem_filter.2 ⟨hp.mem_iff.2 y2, ?_⟩
    rw [Bool.and_eq_true, decide_eq_true_eq]
    exact ⟨hyp, hyw⟩
theorem pr_is {N : Nat} {M : List Ed} (hM : GoodN N M) (h20 : N ≤ 20) {s t : Nat} (hs : s < N) (ht : t < N) (hst : s ≠ t) :
    prE N (s : Int) (t : Int) = 0 ∧ prW N M (s : Int) (t : Int) = (ltF (prA s t) M (2 ^ (N - 1) - 1)).1 ∧ prS N M (s : Int) (t : Int) = grpL (andG N t (ltF (prA s t) M (2 ^ (N - 1) - 1)).2) := by
  have hb : bothE (N : Int) (s : Int) (t : Int) = 0 := by
    unfold bothE
    rw [if_pos (by omega), if_neg (by omega)]
  have he : prE N (s : Int) (t : Int) = 0 := by unfold prE; rw [if_pos hb, if_neg (by omega)]
  obtain ⟨c, h1, h2⟩ := pair_is hM h20 hs ht hst
  refine ⟨he, ?_, ?_⟩
  · unfold prW; rw [if_pos he, h1]; rfl
  · unfold prS; rw [if_pos he, h1, ← h2]; rfl
/-! ### The matrix -/
def mxF (M : List Ed) : Nat → Nat → Nat → Int
  | 0, u, v => if u = v then 0 else 9223372036854775807
  | i + 1, u, v => if prA u v (gaG (i + 1)) = true then min (mxF M i u v) (wG M (i + 1)) else mxF M i u v
theorem mxF_lt (M : List Ed) {u v : Nat} (h : u ≠ v) : ∀ i, mxF M i u v = (ltF (prA u v) M i).1
  | 0 => if_neg h
  | i + 1 => by
    have ih := mxF_lt M h i
    show (if prA u v (gaG (i + 1)) = true then min (mxF M i u v) (wG M (i + 1)) else mxF M i u v) = (ltStep (prA u v) M (ltF (prA u v) M i) (gaG (i + 1))).1
    rw [ih, wG_cG]
    generalize ltF (prA u v) M i = p
    unfold ltStep
    cases e : prA u v (gaG (i + 1)) with
    | false =>
      rw [if_neg (by decide)]
      split <;> simp
    | true =>
      rw [if_pos rfl]
      split
      · omega
      · rw [if_neg (by decide)]
        split
        · show min _ _ = cG M _; omega
        · show min _ _ = p.1; omega
theorem mxF_same (M : List Ed) (u : Nat) : ∀ i, mxF M i u u = 0
  | 0 => if_pos rfl
  | i + 1 => by
    show (if prA u u (gaG (i + 1)) = true then _ else mxF M i u u) = 0
    rw [if_neg (by unfold prA; simp), mxF_same M u i]
theorem mxF_symm (M : List Ed) (u v : Nat) : ∀ i, mxF M i u v = mxF M i v u
  | 0 => by show (if u = v then (0 : Int) else _) = if v = u then 0 else _; by_cases h : u = v <;> simp [h, eq_comm]
  | i + 1 => by
    have e : prA u v (gaG (i + 1)) = prA v u (gaG (i + 1)) := by unfold prA; cases (gaG (i + 1)).testBit u <;> cases (gaG (i + 1)).testBit v <;> rfl
    show (if prA u v (gaG (i + 1)) = true then min (mxF M i u v) _ else mxF M i u v) = (if prA v u (gaG (i + 1)) = true then min (mxF M i v u) _ else mxF M i v u)
    rw [e, mxF_symm M u v i]
theorem mxF_rng {n : Int} {M : List Ed} (h : GoodN n M) (i u v : Nat) : 0 ≤ mxF M i u v ∧ mxF M i u v ≤ 9223372036854775807 := by
  by_cases e : u = v
  · subst e; rw [mxF_same]; omega
  · rw [mxF_lt M e]; exact lt_rng h _ i
theorem mx_is {N : Nat} {M : List Ed} (hM : GoodN N M) (h20 : N ≤ 20) {u v : Nat} (hu : u < N) (hv : v < N) : mxF M (2 ^ (N - 1) - 1) u v = mxW M N u v := by
  unfold mxW
  by_cases e : u = v
  · subst e; rw [if_pos rfl, mxF_same]
  · rw [if_neg e, mxF_lt M e]
    obtain ⟨c, h1, -⟩ := pair_is hM h20 hu hv e
    rw [h1]; rfl
theorem mx_rows {N : Nat} {M : List Ed} (hM : GoodN N M) (h20 : N ≤ 20) : mxL M N N = (List.range N).map fun u => (List.range N).map fun v => mxF M (2 ^ (N - 1) - 1) u v := by
  have : ∀ s, s ≤ N → mxL M N s = (List.range s).map fun u => (List.range N).map fun v => mxF M (2 ^ (N - 1) - 1) u v := by
    intro s
    induction s with
    | zero => intro _; rfl
    | succ s ih =>
      intro hs
      rw [List.range_succ, List.map_append, ← ih (by omega)]
      show mxL M N s ++ [mxRow M N s] = _
      congr 1
      rw [List.map_cons, List.map_nil]
      congr 1
      unfold mxRow
      refine List.map_congr_left fun v hv => ?_
      exact (mx_is hM h20 (by omega) (List.mem_range.1 hv)).symm
  exact this N (Nat.le_refl _)
end Go.Proofs.YtceejjgmepaonaaGreatDoor.BgRes
/- A block of one cell (a variable that a closure captures): what lies in it, over calls and stores. No function of the program is named. -/
namespace Go.Proofs.YtceejjgmepaonaaGreatDoor
open Go.RowKit Go.ChangeShapes
def CellAt (N : Nat) (w : World) (v : Value) : Prop := w.cell? ⟨N, 0, none⟩ = some v ∧ w.frozen? ⟨N, 0, none⟩ = false
theorem CellAt.lt {N : Nat} {w : World} {v : Value} (h : CellAt N w v) : N < w.heap.size := World.block_lt_of_cell? w _ h.1
theorem CellAt.on {N M : Nat} {w w' : World} {v : Value} (h : CellAt N w v) (hb : Below M w w') (hM : N < M) : CellAt N w' v :=
  ⟨(hb.cell (by exact hM)).trans h.1, (hb.frozen (by exact hM)).trans h.2⟩
theorem CellAt.keep {N : Nat} {w w' : World} {v : Value} (h : CellAt N w v) (hb : Below w.heap.size w w') : CellAt N w' v := h.on hb h.lt
theorem CellAt.new (w : World) (v : Value) (T : TypeId) : CellAt w.heap.size (w.alloc (.cells #[v] T)) v := ⟨by simp, by simp⟩
theorem CellAt.set {N : Nat} {w : World} {v : Value} (h : CellAt N w v) (u : Value) : CellAt N (w.setCell ⟨N, 0, none⟩ u) u :=
  ⟨World.cell?_setCell_same _ _ _ h.1, by simpa using h.2⟩
theorem CellAt.past {N M : Nat} {w : World} {v : Value} (h : CellAt N w v) (hM : M ≠ N) (u : Value) : CellAt N (w.setCell ⟨M, 0, none⟩ u) v :=
  ⟨(World.cell?_setCell_other w ⟨M, 0, none⟩ ⟨N, 0, none⟩ _ (fun e => hM (congrArg Addr.block e))).trans h.1, by simpa using h.2⟩
end Go.Proofs.YtceejjgmepaonaaGreatDoor
