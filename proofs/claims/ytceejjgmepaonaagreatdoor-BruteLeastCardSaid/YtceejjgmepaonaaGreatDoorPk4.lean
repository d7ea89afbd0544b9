/- Texts that the laws of this seat stand on, part 4. -/
import Derived.Test.YtceejjgmepaonaaGreatDoorPk3
/- Sides, plainly: whether numbers are one, what crosses one, and weighs, all others, the normal form. No program in sight. -/
namespace Go.Proofs.YtceejjgmepaonaaGreatDoor.SdPure
open EdPure NtPure CutPure
def inS (l : List Int) (v : Int) : Bool := decide (v ∈ l)
theorem inS_iff {l : List Int} {v : Int} : inS l v = true ↔ v ∈ l := by unfold inS; exact decide_eq_true_iff
/-- Rising numbers of vertices. -/
def RightS (n : Int) (l : List Int) : Prop := (∀ v ∈ l, 0 ≤ v ∧ v < n) ∧ l.Pairwise (· < ·)
instance (n : Int) (l : List Int) : Decidable (RightS n l) := by unfold RightS; infer_instance
def chkS (n : Int) (l : List Int) : Int := if RightS n l then (if l = [] ∨ (l.length : Int) = n then 16 else 0) else 4
theorem chkS_rng (n : Int) (l : List Int) : chkS n l = 0 ∨ chkS n l = 4 ∨ chkS n l = 16 := by unfold chkS; split <;> (try split) <;> simp
theorem chkS_ok {n : Int} {l : List Int} (h : chkS n l = 0) : RightS n l ∧ l ≠ [] ∧ (l.length : Int) ≠ n := by
  unfold chkS at h
  by_cases h1 : RightS n l
  · rw [if_pos h1] at h
    by_cases h2 : l = [] ∨ (l.length : Int) = n
    · rw [if_pos h2] at h; cases h
    · exact ⟨h1, fun e => h2 (Or.inl e), fun e => h2 (Or.inr e)⟩
  · rw [if_neg h1] at h; cases h
/-- One more that may be. -/
theorem right_snoc {n : Int} {l : List Int} {x : Int} : RightS n (l ++ [x]) ↔ RightS n l ∧ (0 ≤ x ∧ x < n) ∧ ∀ y, l.getLast? = some y → y < x := by
  unfold RightS
  rw [List.pairwise_append]
  constructor
  · rintro ⟨h1, h2, -, h3⟩
    exact ⟨⟨fun v hv => h1 v (by simp [hv]), h2⟩, h1 x (by simp), fun y hy => h3 y (List.mem_of_getLast? hy) x (by simp)⟩
  · rintro ⟨⟨h1, h2⟩, h3, h4⟩
    refine ⟨fun v hv => ?_, h2, by simp, fun a ha b hb => ?_⟩
    · rcases List.mem_append.1 hv with hv | hv
      · exact h1 v hv
      · rw [List.mem_singleton.1 hv]; exact h3
    · rw [List.mem_singleton.1 hb]
      cases hl : l.getLast? with
      | none => rw [List.getLast?_eq_none_iff] at hl; rw [hl] at ha; simp at ha
      | some y =>
        have hy := h4 y hl
        obtain ⟨l', rfl⟩ := List.getLast?_eq_some_iff.1 hl
        rcases List.mem_append.1 ha with ha | ha
        · have := (List.pairwise_append.1 h2).2.2 a ha y (by simp)
          omega
        · rw [List.mem_singleton.1 ha]; exact hy
theorem right_take {n : Int} {l : List Int} (h : RightS n l) (k : Nat) : RightS n (l.take k) := ⟨fun v hv => h.1 v (List.mem_of_mem_take hv), h.2.sublist (List.take_sublist k l)⟩
theorem take_one {l : List Int} {k : Nat} (hk : k < l.length) : l.take (k + 1) = l.take k ++ [l[k]] := by rw [List.take_add_one, List.getElem?_eq_getElem hk]; rfl
theorem take_last {l : List Int} {k : Nat} (hk : k < l.length) : (l.take (k + 1)).getLast? = some l[k] := by rw [take_one hk, List.getLast?_concat]
/-- A number more: it may be, or it may not. -/
theorem right_next {n : Int} {l : List Int} {k : Nat} (hk : k < l.length) (h : RightS n (l.take k)) : RightS n (l.take (k + 1)) ↔ (0 ≤ l[k] ∧ l[k] < n) ∧ (∀ hk0 : 0 < k, l[k - 1]'(by omega) < l[k]) := by
  rw [take_one hk, right_snoc]
  constructor
  · rintro ⟨-, h2, h3⟩
    refine ⟨h2, fun hk0 => h3 _ ?_⟩
    have := take_last (l := l) (k := k - 1) (by omega)
    rwa [show k - 1 + 1 = k by omega] at this
  · rintro ⟨h2, h3⟩
    refine ⟨h, h2, fun y hy => ?_⟩
    by_cases hk0 : 0 < k
    · have := take_last (l := l) (k := k - 1) (by omega)
      rw [show k - 1 + 1 = k by omega, hy] at this
      rw [Option.some.inj this]; exact h3 hk0
    · have : k = 0 := by omega
      subst this; simp at hy
theorem chk_bad {n : Int} {l : List Int} {k : Nat} (h : ¬ RightS n (l.take k)) : chkS n l = 4 := by unfold chkS; rw [if_neg (fun e => h (right_take e k))]
theorem chk_good {n : Int} {l : List Int} (h : RightS n l) : chkS n l = if l = [] ∨ (l.length : Int) = n then 16 else 0 := by unfold chkS; rw [if_pos h]
/-- The numbers of the first k edges that cross. -/
def crossL (M : List Ed) (S : Int → Bool) : Nat → List Int
  | 0 => []
  | k + 1 => crossL M S k ++ (match M[k]? with | some e => if crossB S e = true then [(k : Int)] else [] | none => [])
theorem cross_succ {M : List Ed} (S : Int → Bool) {k : Nat} (hk : k < M.length) : crossL M S (k + 1) = crossL M S k ++ (if crossB S M[k] = true then [(k : Int)] else []) := by
  show crossL M S k ++ (match M[k]? with | some e => if crossB S e = true then [(k : Int)] else [] | none => []) = _
  rw [List.getElem?_eq_getElem hk]
theorem cross_mem {M : List Ed} {S : Int → Bool} {x : Int} : ∀ {k : Nat}, k ≤ M.length → x ∈ crossL M S k → 0 ≤ x ∧ x < k := by
  intro k
  induction k with
  | zero => intro _ hx; simp [crossL] at hx
  | succ k ih =>
    intro hk hx
    rw [cross_succ S (by omega)] at hx
    rcases List.mem_append.1 hx with hx | hx
    · have := ih (by omega) hx; omega
    · split at hx
      · rw [List.mem_singleton] at hx; omega
      · simp at hx
theorem cross_len (M : List Ed) (S : Int → Bool) : ∀ {k : Nat}, k ≤ M.length → (crossL M S k).length ≤ k := by
  intro k
  induction k with
  | zero => intro _; exact Nat.le_refl _
  | succ k ih =>
    intro hk
    have := ih (by omega)
    rw [cross_succ S (by omega), List.length_append]
    split <;> simp <;> omega
/-- What edges of these numbers weigh. -/
def wtN (M : List Ed) (x : Int) : Int := (M.getD x.toNat (0, 0, 0)).2.2
def wtL (M : List Ed) (c : List Int) : Int := (c.map (wtN M)).sum
theorem wt_snoc (M : List Ed) (c : List Int) (x : Int) : wtL M (c ++ [x]) = wtL M c + wtN M x := by unfold wtL; simp
theorem wt_cross {M : List Ed} (S : Int → Bool) : ∀ {k : Nat}, k ≤ M.length → wtL M (crossL M S k) = cutW (M.take k) S := by
  intro k
  induction k with
  | zero => intro _; rfl
  | succ k ih =>
    intro hk
    have hk' : k < M.length := by omega
    have e : M.take (k + 1) = M.take k ++ [M[k]] := by rw [List.take_add_one, List.getElem?_eq_getElem hk']; rfl
    rw [cross_succ S hk', e, cut_snoc, ← ih (by omega)]
    unfold crE
    by_cases hc : crossB S M[k] = true
    · rw [if_pos hc, if_pos hc, wt_snoc]
      unfold wtN
      rw [List.getD_eq_getElem?_getD, Int.toNat_natCast, List.getElem?_eq_getElem hk']
      rfl
    · rw [if_neg hc, if_neg hc, List.append_nil]; omega
theorem wt_all {M : List Ed} (S : Int → Bool) : wtL M (crossL M S M.length) = cutW M S := by rw [wt_cross S (Nat.le_refl _), List.take_length]
/-- All below k that are not among these. -/
def othL (l : List Int) : Nat → List Int
  | 0 => []
  | k + 1 => othL l k ++ (if inS l k = true then [] else [(k : Int)])
theorem oth_len (l : List Int) (k : Nat) : (othL l k).length ≤ k := by
  induction k with
  | zero => exact Nat.le_refl _
  | succ k ih => unfold othL; rw [List.length_append]; split <;> simp <;> omega
theorem oth_mem (l : List Int) (v : Int) (k : Nat) : v ∈ othL l k ↔ (0 ≤ v ∧ v < k) ∧ v ∉ l := by
  induction k with
  | zero => simp [othL]; omega
  | succ k ih =>
    unfold othL
    rw [List.mem_append, ih]
    by_cases hk : inS l k = true
    · rw [if_pos hk]
      have := inS_iff.1 hk
      constructor
      · rintro (⟨h1, h2⟩ | h)
        · exact ⟨by omega, h2⟩
        · simp at h
      · rintro ⟨h1, h2⟩
        refine Or.inl ⟨?_, h2⟩
        by_cases e : v = k
        · rw [e] at h2; exact absurd this h2
        · omega
    · rw [if_neg hk, List.mem_singleton]
      constructor
      · rintro (⟨h1, h2⟩ | h)
        · exact ⟨by omega, h2⟩
        · exact ⟨by omega, by rw [h]; exact fun e => hk (inS_iff.2 e)⟩
      · rintro ⟨h1, h2⟩
        by_cases e : v = k
        · exact Or.inr e
        · exact Or.inl ⟨by omega, h2⟩
def normL (n : Int) (l : List Int) : List Int := if inS l 0 = true then othL l n.toNat else l
def partsB (n : Int) (l : List Int) (u v : Int) : Bool := decide (chkS n l = 0) && (decide (0 ≤ u) && (decide (u < n) && (decide (0 ≤ v) && (decide (v < n) && (inS l u != inS l v)))))
theorem parts_symm (n : Int) (l : List Int) (u v : Int) : partsB n l u v = partsB n l v u := by
  unfold partsB
  cases decide (chkS n l = 0) <;> cases decide (0 ≤ u) <;> cases decide (u < n) <;> cases decide (0 ≤ v) <;> cases decide (v < n) <;> cases inS l u <;> cases inS l v <;> rfl
/-- A side and its other side weigh the same. -/
theorem oth_cut {n : Nat} {M : List Ed} (h : GoodN n M) (l : List Int) : cutW M (inS (othL l n)) = cutW M (inS l) := by
  rw [← cut_not M (inS l)]
  refine cut_same h fun v v0 v1 => ?_
  unfold inS
  by_cases hv : v ∈ l
  · rw [decide_eq_true hv, decide_eq_false (fun e => ((oth_mem l v n).1 e).2 hv)]; rfl
  · rw [decide_eq_false hv, decide_eq_true ((oth_mem l v n).2 ⟨⟨v0, v1⟩, hv⟩)]; rfl
end Go.Proofs.YtceejjgmepaonaaGreatDoor.SdPure
/- All sides of a small graph, one by one, the least of them, and what all least ones between two share, plainly. No program in sight. -/
namespace Go.Proofs.YtceejjgmepaonaaGreatDoor.BrPure
open EdPure NtPure CutPure SdPure
/-- The vertices from 1 whose bits are set, k bits. -/
def bitS (m : Nat) : Nat → List Int
  | 0 => []
  | k + 1 => bitS m k ++ (if m.testBit k = true then [((k + 1 : Nat) : Int)] else [])
theorem bit_mem (m : Nat) (v : Int) (k : Nat) : v ∈ bitS m k ↔ ∃ j : Nat, j < k ∧ v = ((j + 1 : Nat) : Int) ∧ m.testBit j = true := by
  induction k with
  | zero => simp [bitS]
  | succ k ih =>
    unfold bitS
    rw [List.mem_append, ih]
    constructor
    · rintro (⟨j, h1, h2, h3⟩ | h)
      · exact ⟨j, by omega, h2, h3⟩
      · split at h
        · next hb => simp only [List.mem_singleton] at h; exact ⟨k, by omega, h, hb⟩
        · simp at h
    · rintro ⟨j, h1, h2, h3⟩
      by_cases hj : j = k
      · subst hj; right; rw [if_pos h3]; simp [h2]
      · left; exact ⟨j, by omega, h2, h3⟩
theorem bit_len (m : Nat) : ∀ k : Nat, (bitS m k).length ≤ k
  | 0 => Nat.le_refl _
  | k + 1 => by
    have := bit_len m k
    unfold bitS
    rw [List.length_append]
    split <;> simp <;> omega
theorem bit_rises (m : Nat) : ∀ k : Nat, (bitS m k).Pairwise (· < ·)
  | 0 => List.Pairwise.nil
  | k + 1 => by
    unfold bitS
    rw [List.pairwise_append]
    refine ⟨bit_rises m k, by split <;> simp, fun a ha b hb => ?_⟩
    obtain ⟨j, h1, h2, -⟩ := (bit_mem m a k).1 ha
    split at hb
    · simp only [List.mem_singleton] at hb; omega
    · simp at hb
/-- Any bits are some number's. -/
theorem bits_ex (S : Nat → Bool) : ∀ k : Nat, ∃ m, m < 2 ^ k ∧ ∀ j, j < k → m.testBit j = S j
  | 0 => ⟨0, by simp, fun j h => by omega⟩
  | k + 1 => by
    obtain ⟨m, h1, h2⟩ := bits_ex S k
    have h3 : m.testBit k = false := Nat.testBit_lt_two_pow h1
    cases e : S k with
    | false =>
      refine ⟨m, by rw [Nat.pow_succ]; omega, fun j hj => ?_⟩
      by_cases hk : j = k
      · subst hk; rw [h3, e]
      · exact h2 j (by omega)
    | true =>
      refine ⟨2 ^ k + m, by rw [Nat.pow_succ]; omega, fun j hj => ?_⟩
      by_cases hk : j = k
      · subst hk; rw [Nat.testBit_two_pow_add_eq, h3, e]; rfl
      · rw [Nat.testBit_two_pow_add_gt (by omega)]; exact h2 j (by omega)
/-- The first j sides without the vertex 0, in order. -/
def sideL (n : Nat) : Nat → List (List Int)
  | 0 => []
  | j + 1 => sideL n j ++ [bitS (j + 1) (n - 1)]
theorem sideL_len (n : Nat) : ∀ j : Nat, (sideL n j).length = j
  | 0 => rfl
  | j + 1 => by unfold sideL; rw [List.length_append, sideL_len n j]; rfl
theorem sideL_mem (n : Nat) (x : List Int) : ∀ j : Nat, x ∈ sideL n j ↔ ∃ m : Nat, 0 < m ∧ m ≤ j ∧ x = bitS m (n - 1)
  | 0 => by simp [sideL]; intro m h1 h2; omega
  | j + 1 => by
    unfold sideL
    rw [List.mem_append, sideL_mem n x j]
    constructor
    · rintro (⟨m, h1, h2, h3⟩ | h)
      · exact ⟨m, h1, by omega, h3⟩
      · simp only [List.mem_singleton] at h; exact ⟨j + 1, by omega, Nat.le_refl _, h⟩
    · rintro ⟨m, h1, h2, h3⟩
      by_cases hm : m = j + 1
      · right; rw [h3, hm]; simp
      · left; exact ⟨m, h1, by omega, h3⟩
def allS (n : Nat) : List (List Int) := sideL n (2 ^ (n - 1) - 1)
/-- Each of them is a side. -/
theorem all_right {n : Nat} {x : List Int} (h : x ∈ allS n) : chkS (n : Int) x = 0 ∧ inS x 0 = false := by
  obtain ⟨m, h1, h2, rfl⟩ := (sideL_mem n x _).1 h
  have hr : RightS (n : Int) (bitS m (n - 1)) := ⟨fun v hv => by
    obtain ⟨j, a1, a2, -⟩ := (bit_mem m v _).1 hv
    omega, bit_rises m _⟩
  have hl := bit_len m (n - 1)
  have hp : 0 < 2 ^ (n - 1) := Nat.pow_pos (by omega)
  have hne : bitS m (n - 1) ≠ [] := by
    obtain ⟨j, hj⟩ := Nat.exists_testBit_of_ne_zero (x := m) (by omega)
    have hjn : j < n - 1 := by
      apply Classical.byContradiction
      intro hc
      have hlt : m < 2 ^ j := Nat.lt_of_lt_of_le (by omega) (Nat.pow_le_pow_right (n := 2) (by omega) (show n - 1 ≤ j by omega))
      rw [Nat.testBit_lt_two_pow hlt] at hj
      cases hj
    intro e
    have := (bit_mem m ((j + 1 : Nat) : Int) (n - 1)).2 ⟨j, hjn, rfl, hj⟩
    rw [e] at this
    simp at this
  have hpos : (bitS m (n - 1)).length ≠ 0 := fun e => hne (List.length_eq_zero_iff.1 e)
  refine ⟨?_, ?_⟩
  · unfold chkS
    rw [if_pos hr, if_neg]
    rintro (e | e)
    · exact hne e
    · omega
  · cases e : inS (bitS m (n - 1)) 0 with
    | false => rfl
    | true =>
      obtain ⟨j, -, h3, -⟩ := (bit_mem m 0 _).1 (inS_iff.1 e)
      omega
/-- Each side without the vertex 0 is among them. -/
theorem all_there {n : Nat} {S : Int → Bool} (h0 : S 0 = false) {v : Int} (hv : 0 ≤ v ∧ v < n) (hS : S v = true) : ∃ x ∈ allS n, ∀ u, 0 ≤ u → u < (n : Int) → inS x u = S u := by
  obtain ⟨m, h1, h2⟩ := bits_ex (fun j => S ((j + 1 : Nat) : Int)) (n - 1)
  have hv0 : v ≠ 0 := fun e => by rw [e, h0] at hS; cases hS
  have hb : m.testBit (v.toNat - 1) = true := by
    rw [h2 _ (by omega), show ((v.toNat - 1 + 1 : Nat) : Int) = v by omega]
    exact hS
  have hm : m ≠ 0 := fun e => by rw [e] at hb; simp at hb
  refine ⟨bitS m (n - 1), (sideL_mem n _ _).2 ⟨m, by omega, by omega, rfl⟩, fun u hu0 hun => ?_⟩
  by_cases hu : u = 0
  · subst hu
    rw [h0]
    cases e : inS (bitS m (n - 1)) 0 with
    | false => rfl
    | true =>
      obtain ⟨j, -, h3, -⟩ := (bit_mem m 0 _).1 (inS_iff.1 e)
      omega
  · have hb2 := h2 (u.toNat - 1) (by omega)
    simp only [show ((u.toNat - 1 + 1 : Nat) : Int) = u by omega] at hb2
    cases e : S u with
    | true => exact inS_iff.2 ((bit_mem m u _).2 ⟨u.toNat - 1, by omega, by omega, by rw [hb2, e]⟩)
    | false =>
      cases e2 : inS (bitS m (n - 1)) u with
      | false => rfl
      | true =>
        obtain ⟨j, h3, h4, h5⟩ := (bit_mem m u _).1 (inS_iff.1 e2)
        rw [show u.toNat - 1 = j by omega, h5, e] at hb2
        cases hb2
/-- The least of some, the first of the least. -/
def stepB (M : List Ed) (best : Option (Int × List Int)) (x : List Int) : Option (Int × List Int) :=
  match best with
  | none => some (cutW M (inS x), x)
  | some (b, s) => if cutW M (inS x) < b then some (cutW M (inS x), x) else some (b, s)
def OkB (M : List Ed) (best : Option (Int × List Int)) (L : List (List Int)) : Prop :=
  match best with
  | none => L = []
  | some (w, x) => x ∈ L ∧ w = cutW M (inS x) ∧ ∀ y ∈ L, w ≤ cutW M (inS y)
theorem OkB.step {M : List Ed} {best : Option (Int × List Int)} {L : List (List Int)} (h : OkB M best L) (x : List Int) : OkB M (stepB M best x) (L ++ [x]) := by
  unfold stepB
  cases best with
  | none => exact ⟨by simp, rfl, fun y hy => by obtain rfl : L = [] := h; simp at hy; rw [hy]; exact Int.le_refl _⟩
  | some p =>
    obtain ⟨b, s⟩ := p
    obtain ⟨h1, h2, h3⟩ := h
    simp only
    split
    · next hlt => exact ⟨by simp, rfl, fun y hy => by
        rw [List.mem_append] at hy
        rcases hy with hy | hy
        · have := h3 y hy; omega
        · simp only [List.mem_singleton] at hy; rw [hy]; exact Int.le_refl _⟩
    · next hlt => exact ⟨by simp [h1], h2, fun y hy => by
        rw [List.mem_append] at hy
        rcases hy with hy | hy
        · exact h3 y hy
        · simp only [List.mem_singleton] at hy; rw [hy]; omega⟩
end Go.Proofs.YtceejjgmepaonaaGreatDoor.BrPure
/- Sides one by one so that each differs from the one ahead by one vertex, plainly: the reflected binary numbers come to each number once; what a side weighs when one vertex changes over. No program in sight. -/
namespace Go.Proofs.YtceejjgmepaonaaGreatDoor.BrGray
open EdPure NtPure CutPure SdPure BrPure
/-- The i-th one. -/
def gray (i : Nat) : Nat := i ^^^ (i / 2)
theorem gray_zero : gray 0 = 0 := rfl
theorem gray_bit (i j : Nat) : (gray i).testBit j = (i.testBit j != i.testBit (j + 1)) := by
  unfold gray
  rw [Nat.testBit_xor, Nat.testBit_div_two]
theorem odd_part (x : Nat) : x ≠ 0 → ∃ t m, x = 2 ^ t * (2 * m + 1) := by
  refine Nat.strongRecOn x (fun x ih h => ?_)
  rcases Nat.mod_two_eq_zero_or_one x with e | e
  · obtain ⟨t, m, h2⟩ := ih (x / 2) (by omega) (by omega)
    exact ⟨t + 1, m, by rw [Nat.pow_succ, Nat.mul_comm (2 ^ t) 2, Nat.mul_assoc, ← h2]; omega⟩
  · exact ⟨0, x / 2, by omega⟩
theorem low_two (t m j : Nat) : (2 ^ t * (2 * m + 1)).testBit j = (decide (t ≤ j) && (decide (j = t) || m.testBit (j - t - 1))) ∧
    (2 ^ t * (2 * m + 1) - 1).testBit j = (decide (j < t) || (decide (t < j) && m.testBit (j - t - 1))) := by
  have hp := Nat.two_pow_pos t
  constructor
  · rw [Nat.mul_comm, Nat.testBit_mul_two_pow]
    by_cases h1 : t ≤ j
    · obtain ⟨d, rfl⟩ : ∃ d, j = t + d := ⟨j - t, by omega⟩
      rw [Nat.add_sub_cancel_left]
      cases d with
      | zero => simp
      | succ d =>
        have : (t + (d + 1) = t) = False := by simp
        simp only [this, decide_false, Bool.false_or, Nat.add_sub_cancel]
        congr 1
        rw [Nat.testBit_succ]
        congr 1
        omega
    · simp [h1]
  · have e : 2 ^ t * (2 * m + 1) - 1 = 2 ^ t * (2 * m) + (2 ^ t - 1) := by
      rw [Nat.mul_add]; omega
    rw [e, Nat.testBit_two_pow_mul_add _ (by omega)]
    by_cases h1 : j < t
    · simp [h1, Nat.testBit_two_pow_sub_one]
    · obtain ⟨d, rfl⟩ : ∃ d, j = t + d := ⟨j - t, by omega⟩
      have h2 : (decide (t + d < t)) = false := decide_eq_false (by omega)
      rw [if_neg h1, h2, Nat.add_sub_cancel_left, Bool.false_or]
      cases d with
      | zero => simp
      | succ d =>
        have : decide (t < t + (d + 1)) = true := decide_eq_true (by omega)
        rw [this, Bool.true_and, Nat.testBit_succ, Nat.add_sub_cancel]
        congr 1
        omega
/-- From one to the next just the bit changes that is the lowest one of the next's number. -/
theorem gray_step {i t m : Nat} (h : i + 1 = 2 ^ t * (2 * m + 1)) : gray (i + 1) = gray i ^^^ 2 ^ t := by
  apply Nat.eq_of_testBit_eq
  intro j
  have hi : i = 2 ^ t * (2 * m + 1) - 1 := by omega
  rw [Nat.testBit_xor, gray_bit, gray_bit, Nat.testBit_two_pow, h, hi, (low_two t m j).1, (low_two t m (j + 1)).1, (low_two t m j).2, (low_two t m (j + 1)).2]
  rcases Nat.lt_trichotomy j t with h1 | h1 | h1
  · by_cases h2 : j + 1 = t
    · have a1 : decide (t ≤ j) = false := decide_eq_false (by omega)
      have a2 : decide (t ≤ j + 1) = true := decide_eq_true (by omega)
      have a3 : decide (j + 1 = t) = true := decide_eq_true h2
      have a4 : decide (j < t) = true := decide_eq_true h1
      have a5 : decide (j + 1 < t) = false := decide_eq_false (by omega)
      have a6 : decide (t < j + 1) = false := decide_eq_false (by omega)
      have a7 : decide (t = j) = false := decide_eq_false (by omega)
      rw [a1, a2, a3, a4, a5, a6, a7]; rfl
    · have a1 : decide (t ≤ j) = false := decide_eq_false (by omega)
      have a2 : decide (t ≤ j + 1) = false := decide_eq_false (by omega)
      have a4 : decide (j < t) = true := decide_eq_true h1
      have a5 : decide (j + 1 < t) = true := decide_eq_true (by omega)
      have a7 : decide (t = j) = false := decide_eq_false (by omega)
      rw [a1, a2, a4, a5, a7]; rfl
  · subst h1
    have a1 : decide (j ≤ j) = true := decide_eq_true (by omega)
    have a2 : decide (j ≤ j + 1) = true := decide_eq_true (by omega)
    have a3 : decide (j + 1 = j) = false := decide_eq_false (by omega)
    have a4 : decide (j < j) = false := decide_eq_false (by omega)
    have a5 : decide (j + 1 < j) = false := decide_eq_false (by omega)
    have a6 : decide (j < j + 1) = true := decide_eq_true (by omega)
    have a7 : decide (j = j) = true := decide_eq_true rfl
    rw [a1, a2, a3, a4, a5, a6, a7, show j + 1 - j - 1 = 0 by omega]
    cases m.testBit 0 <;> rfl
  · have a1 : decide (t ≤ j) = true := decide_eq_true (by omega)
    have a2 : decide (t ≤ j + 1) = true := decide_eq_true (by omega)
    have a3 : decide (j = t) = false := decide_eq_false (by omega)
    have a3' : decide (j + 1 = t) = false := decide_eq_false (by omega)
    have a4 : decide (j < t) = false := decide_eq_false (by omega)
    have a5 : decide (j + 1 < t) = false := decide_eq_false (by omega)
    have a6 : decide (t < j + 1) = true := decide_eq_true (by omega)
    have a6' : decide (t < j) = true := decide_eq_true (by omega)
    have a7 : decide (t = j) = false := decide_eq_false (by omega)
    rw [a1, a2, a3, a3', a4, a5, a6, a6', a7]
    cases m.testBit (j - t - 1) <;> cases m.testBit (j + 1 - t - 1) <;> rfl
/-- Of numbers that fit, what comes fits. -/
theorem gray_lt {i k : Nat} (h : i < 2 ^ k) : gray i < 2 ^ k := by
  unfold gray
  exact Nat.xor_lt_two_pow h (by omega)
/-- No two of the numbers come to the same. -/
theorem gray_inj {i j : Nat} (h : gray i = gray j) : i = j := by
  obtain ⟨k, hk⟩ : ∃ k, i < 2 ^ k ∧ j < 2 ^ k := ⟨i + j, Nat.lt_of_le_of_lt (by omega) (Nat.lt_two_pow_self (n := i + j)), Nat.lt_of_le_of_lt (by omega) (Nat.lt_two_pow_self (n := i + j))⟩
  have key : ∀ d b, b + d = k → i.testBit b = j.testBit b := by
    intro d
    induction d with
    | zero =>
      intro b hb
      rw [Nat.testBit_lt_two_pow (x := i) (by rw [show b = k by omega]; exact hk.1), Nat.testBit_lt_two_pow (x := j) (by rw [show b = k by omega]; exact hk.2)]
    | succ d ih =>
      intro b hb
      have h1 := ih (b + 1) (by omega)
      have h2 := congrArg (fun x => x.testBit b) h
      simp only [gray_bit, h1] at h2
      revert h2
      cases i.testBit b <;> cases j.testBit b <;> cases j.testBit (b + 1) <;> simp
  apply Nat.eq_of_testBit_eq
  intro b
  by_cases hb : b ≤ k
  · exact key (k - b) b (by omega)
  · rw [Nat.testBit_lt_two_pow (x := i) (Nat.lt_trans hk.1 (Nat.pow_lt_pow_right (by omega) (by omega))), Nat.testBit_lt_two_pow (x := j) (Nat.lt_trans hk.2 (Nat.pow_lt_pow_right (by omega) (by omega)))]
/-- Some numbers below N that are apart, and as many as there are: they are all. -/
theorem pigeon_all : ∀ (N : Nat) (L : List Nat), L.Nodup → (∀ x ∈ L, x < N) → L.length = N → ∀ y, y < N → y ∈ L
  | 0, _, _, _, _, y, hy => by omega
  | N + 1, L, hd, hl, hn, y, hy => by
    by_cases hm : N ∈ L
    · have h1 : (L.erase N).length = N := by rw [List.length_erase_of_mem hm]; omega
      have h2 : ∀ x ∈ L.erase N, x < N := fun x hx => by
        have a := hl x (List.mem_of_mem_erase hx)
        have b : x ≠ N := fun e => by rw [e] at hx; exact absurd hx (hd.not_mem_erase)
        omega
      by_cases hyN : y = N
      · rw [hyN]; exact hm
      · exact List.mem_of_mem_erase (pigeon_all N (L.erase N) (hd.erase N) h2 h1 y (by omega))
    · exfalso
      have h2 : ∀ x ∈ L, x < N := fun x hx => by
        have a := hl x hx
        have b : x ≠ N := fun e => hm (by rw [← e]; exact hx)
        omega
      have := List.Nodup.length_le_of_subset (l₁ := L) (l₂ := List.range N) hd (fun x hx => List.mem_range.2 (h2 x hx))
      rw [List.length_range] at this
      omega
/-- Each number below a power of two comes. -/
theorem gray_all {k m : Nat} (h : m < 2 ^ k) : ∃ i, i < 2 ^ k ∧ gray i = m := by
  have hd : ((List.range (2 ^ k)).map gray).Nodup := by
    rw [List.nodup_iff_pairwise_ne, List.pairwise_map]
    exact (List.nodup_range (n := 2 ^ k)).imp (fun hne e => hne (gray_inj e))
  have := pigeon_all (2 ^ k) _ hd (fun x hx => by
    obtain ⟨i, hi, rfl⟩ := List.mem_map.1 hx
    exact gray_lt (List.mem_range.1 hi)) (by simp) m h
  obtain ⟨i, hi, e⟩ := List.mem_map.1 this
  exact ⟨i, List.mem_range.1 hi, e⟩
theorem gray_pos {i : Nat} (h : 0 < i) : 0 < gray i := by
  rcases Nat.eq_zero_or_pos (gray i) with e | e
  · have : gray i = gray 0 := by rw [e, gray_zero]
    have := gray_inj this
    omega
  · exact e
/-- A vertex that changes over. -/
def flipV (S : Int → Bool) (v : Int) (u : Int) : Bool := if u = v then !S u else S u
/-- What is paid more for it: what its edges that did not cross weigh, less what those that did. -/
def moreE (S : Int → Bool) (v : Int) (e : Ed) : Int := if e.1 = v ∨ e.2.1 = v then (if crossB S e = true then -e.2.2 else e.2.2) else 0
def moreW (M : List Ed) (S : Int → Bool) (v : Int) : Int := (M.map (moreE S v)).sum
theorem cut_flip (M : List Ed) (hM : ∀ e ∈ M, e.1 ≠ e.2.1) (S : Int → Bool) (v : Int) : cutW M (flipV S v) = cutW M S + moreW M S v := by
  induction M with
  | nil => rfl
  | cons e r ih =>
    have h1 := hM e (by simp)
    have h2 : moreW (e :: r) S v = moreE S v e + moreW r S v := by unfold moreW; simp
    rw [cut_cons, cut_cons, ih (fun x hx => hM x (by simp [hx])), h2]
    have h3 : crE (flipV S v) e = crE S e + moreE S v e := by
      unfold crE moreE crossB flipV
      by_cases a : e.1 = v
      · have b : e.2.1 ≠ v := fun b => h1 (by rw [a, b])
        rw [if_pos a, if_neg b, if_pos (Or.inl a)]
        cases S e.1 <;> cases S e.2.1 <;> simp <;> omega
      · by_cases b : e.2.1 = v
        · rw [if_neg a, if_pos b, if_pos (Or.inr b)]
          cases S e.1 <;> cases S e.2.1 <;> simp <;> omega
        · rw [if_neg a, if_neg b, if_neg (fun h : e.1 = v ∨ e.2.1 = v => h.elim a b)]
          omega
    omega
/-- The side of a number with one bit turned is the side with that vertex changed over. -/
theorem bit_flip {m t k : Nat} (ht : t < k) (u : Int) : inS (bitS (m ^^^ 2 ^ t) k) u = flipV (inS (bitS m k)) ((t + 1 : Nat) : Int) u := by
  have key : ∀ (x : Nat) (u : Int), inS (bitS x k) u = true ↔ ∃ j : Nat, j < k ∧ u = ((j + 1 : Nat) : Int) ∧ x.testBit j = true := fun x u => inS_iff.trans (bit_mem x u k)
  have eqv : ∀ (x : Nat) (j : Nat), j < k → inS (bitS x k) ((j + 1 : Nat) : Int) = x.testBit j := fun x j hj => by
    cases e : x.testBit j with
    | true => exact (key x _).2 ⟨j, hj, rfl, e⟩
    | false =>
      cases e2 : inS (bitS x k) ((j + 1 : Nat) : Int) with
      | false => rfl
      | true =>
        obtain ⟨i, h1, h2, h3⟩ := (key x _).1 e2
        rw [show i = j by omega, e] at h3
        cases h3
  have out : ∀ (x : Nat), (¬ ∃ j : Nat, j < k ∧ u = ((j + 1 : Nat) : Int)) → inS (bitS x k) u = false := fun x h => by
    cases e2 : inS (bitS x k) u with
    | false => rfl
    | true =>
      obtain ⟨i, h1, h2, -⟩ := (key x _).1 e2
      exact absurd ⟨i, h1, h2⟩ h
  unfold flipV
  by_cases h : ∃ j : Nat, j < k ∧ u = ((j + 1 : Nat) : Int)
  · obtain ⟨j, hj, rfl⟩ := h
    rw [eqv _ j hj, eqv _ j hj, Nat.testBit_xor, Nat.testBit_two_pow]
    by_cases e : t = j
    · subst e; simp
    · have : ¬ ((j + 1 : Nat) : Int) = ((t + 1 : Nat) : Int) := by omega
      rw [if_neg this, decide_eq_false e]; simp
  · rw [out _ h, out _ h, if_neg (fun e => h ⟨t, ht, e⟩)]
end Go.Proofs.YtceejjgmepaonaaGreatDoor.BrGray
