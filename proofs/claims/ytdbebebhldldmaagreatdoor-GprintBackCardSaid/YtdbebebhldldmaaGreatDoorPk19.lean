/- Texts that the laws of this seat stand on, part 19. -/
import Derived.Test.YtdbebebhldldmaaGreatDoorPk18
import Derived.WalkLawsBesides
/- Plain facts on floats that are whole: which number a word is, how it compares with another float, and what cutting it off gives. No program in sight. -/
namespace Go.Proofs.YtdbebebhldldmaaGreatDoor.FintPure
open Go.RowKit FbitPure

/-- What keeps the word b from being whole. -/
def wholeE (b : Nat) : Int := if kindN b = 0 then 11 else if kindN b = 1 then 12 else if partE b < 0 then 13 else 0
/-- How far from 0 a whole float is. -/
def magN (b : Nat) : Nat := partM b * 2 ^ (partE b).toNat
/-- The number that a whole float is. -/
def valI (b : Nat) : Int := if topB b then -(magN b : Int) else magN b
/-- What keeps the word b from being a number. -/
def intE (b : Nat) : Int := if wholeE b ≠ 0 then wholeE b else if valI b < -9223372036854775808 ∨ 9223372036854775808 ≤ valI b then 10 else 0
def intN (b : Nat) : Int := if intE b = 0 then valI b else 0
def weightE (b : Nat) : Int := if intE b ≠ 0 then intE b else if valI b < 0 ∨ 2147483648 < valI b then 5 else 0
def weightN (b : Nat) : Int := if weightE b = 0 then valI b else 0

theorem whole_cases (b : Nat) : (kindN b = 0 ∧ wholeE b = 11) ∨ (kindN b = 1 ∧ wholeE b = 12) ∨ (2 ≤ kindN b ∧ partE b < 0 ∧ wholeE b = 13) ∨ (2 ≤ kindN b ∧ 0 ≤ partE b ∧ wholeE b = 0) := by
  unfold wholeE
  rcases kind_cases b with ⟨h1, h2, h3⟩ | ⟨h1, h2, h3⟩ | ⟨h1, h2, h3⟩ | ⟨h1, h2, h3⟩ | ⟨h1, h2, h3⟩ <;> simp [h3] <;> omega

/-- What a finite word stands for. -/
theorem read_fin (b : Nat) (hb : b < 18446744073709551616) (h : 2 ≤ kindN b) : Ieee.double.read b = .number (topB b) (sig b) (expo b) := by
  have hE : eN b < 2047 := by
    rcases kind_cases b with ⟨h1, h2, h3⟩ | ⟨h1, h2, h3⟩ | ⟨h1, h2, h3⟩ | ⟨h1, h2, h3⟩ | ⟨h1, h2, h3⟩ <;> omega
  have e1 : Ieee.double.signWeight = 9223372036854775808 := rfl
  have e2 : Ieee.double.binade = 4503599627370496 := rfl
  have e3 : Ieee.double.infRung = 9218868437227405312 := rfl
  have e4 : Ieee.double.leastPlace = -1074 := rfl
  have ht : (b / 9223372036854775808 % 2 == 1) = topB b := by
    unfold topB
    rw [Bool.eq_iff_iff]; simp; omega
  unfold Ieee.Format.read
  rw [e1, e2, e3, e4, ht]
  have hr : b % 9223372036854775808 = eN b * 4503599627370496 + fN b := by unfold eN fN; omega
  have hf := fN_lt b
  simp only [hr]
  by_cases h0 : eN b = 0
  · rw [if_pos (by rw [h0]; omega)]
    have s : sig b = fN b := if_pos h0
    have x : expo b = -1074 := by unfold expo; rw [if_pos h0]; rfl
    rw [s, x, h0, Nat.zero_mul, Nat.zero_add]
  · rw [if_neg (by omega), if_pos (by omega)]
    have s : sig b = fN b + 4503599627370496 := if_neg h0
    have x : expo b = (eN b : Int) - 1075 := by unfold expo; rw [if_neg h0]
    rw [s, x]
    congr 1
    · omega
    · omega

theorem signed_shift (s : Bool) (m a k : Nat) : Ieee.signed s m (a + k) = Ieee.signed s m a * 2 ^ k := by
  unfold Ieee.signed
  rw [Nat.shiftLeft_eq, Nat.shiftLeft_eq, Nat.pow_add, ← Nat.mul_assoc]
  cases s <;> simp [Int.neg_mul]
theorem compare_scale (x y : Int) (k : Nat) : compare (x * 2 ^ k) (y * 2 ^ k) = compare x y := by
  have hp : (0 : Int) < 2 ^ k := Int.pow_pos (by decide)
  have hlt : ∀ u v : Int, u * 2 ^ k < v * 2 ^ k ↔ u < v := fun u v => ⟨fun h => Int.lt_of_mul_lt_mul_right h (Int.le_of_lt hp), fun h => Int.mul_lt_mul_of_pos_right h hp⟩
  show compareOfLessAndEq _ _ = compareOfLessAndEq _ _
  unfold compareOfLessAndEq
  simp only [hlt]
  by_cases h : x = y
  · subst h; rw [if_neg (Int.lt_irrefl _), if_neg (Int.lt_irrefl _), if_pos rfl, if_pos rfl]
  · by_cases h2 : x < y
    · rw [if_pos h2, if_pos h2]
    · rw [if_neg h2, if_neg h2, if_neg h, if_neg (fun hc => by
        have := (hlt y x).2 (by omega)
        omega)]
/-- How two numbers compare, each told from the same place. -/
theorem order_num (k : Nat) (s t : Bool) (m n : Nat) (i j : Int) (hi : -k ≤ i) (hj : -k ≤ j) :
    (Ieee.Datum.number s m i).order (.number t n j) = some (compare (Ieee.signed s m (i + k).toNat) (Ieee.signed t n (j + k).toNat)) := by
  unfold Ieee.Datum.order
  simp only []
  have e1 : (i + k).toNat = (i - min i j).toNat + (min i j + k).toNat := by omega
  have e2 : (j + k).toNat = (j - min i j).toNat + (min i j + k).toNat := by omega
  rw [e1, e2, signed_shift, signed_shift, compare_scale]
theorem zero_zero (a b c : Nat) : 0 * a = 0 * b * c := by simp
theorem two_ways (s o t x p k : Nat) (h : s = o * 2 ^ t) (e : p + k = t + x) : s * 2 ^ x = o * 2 ^ p * 2 ^ k := by
  rw [Nat.mul_assoc, ← Nat.pow_add, e, Nat.pow_add, ← Nat.mul_assoc, ← h]
theorem expo_ge (b : Nat) : -1074 ≤ expo b := by
  unfold expo; split <;> omega
/-- What a whole float is, at its least place. -/
theorem scaled_val (b k : Nat) (hk : -k ≤ expo b) (h : 2 ≤ kindN b) (he : 0 ≤ partE b) : Ieee.signed (topB b) (sig b) (expo b + k).toNat = valI b * 2 ^ k := by
  have hs : sig b * 2 ^ (expo b + k).toNat = magN b * 2 ^ k := by
    unfold magN
    by_cases h3 : 3 ≤ kindN b
    · have hS : sig b ≠ 0 := by
        unfold sig
        rcases kind_cases b with ⟨h1, h2, h3⟩ | ⟨h1, h2, h3⟩ | ⟨h1, h2, h3⟩ | ⟨h1, h2, h3⟩ | ⟨h1, h2, h3⟩ <;> split <;> omega
      have hM : partM b = od (sig b) := if_pos h3
      have hE : partE b = expo b + tz (sig b) := if_pos h3
      obtain ⟨d1, d2, d3⟩ := od_spec (sig b) hS (by have := sig_lt b; omega)
      rw [hM]
      have e : (partE b).toNat + k = tz (sig b) + (expo b + k).toNat := by omega
      exact two_ways _ _ _ _ _ _ d1 e
    · have hM : partM b = 0 := if_neg h3
      have hS : sig b = 0 := by
        rcases kind_cases b with ⟨h1, h2, h3⟩ | ⟨h1, h2, h3⟩ | ⟨h1, h2, h3⟩ | ⟨h1, h2, h3⟩ | ⟨h1, h2, h3⟩
        · omega
        · omega
        · unfold sig; rw [if_pos h1, h2]
        · omega
        · omega
      rw [hM, hS]
      exact zero_zero _ _ _
  unfold Ieee.signed valI
  rw [Nat.shiftLeft_eq, hs]
  cases topB b
  · rw [if_neg (by decide), if_neg (by decide), Int.natCast_mul, Int.natCast_pow]; rfl
  · rw [if_pos rfl, if_pos rfl, Int.natCast_mul, Int.natCast_pow, Int.neg_mul]; rfl
/-- A comparison with a whole float, told by numbers. -/
theorem order_val (b c : Nat) (hb : b < 18446744073709551616) (h : wholeE b = 0) (hc : c < 18446744073709551616) (h' : wholeE c = 0) : FloatKind.f64.format.order b c = some (compare (valI b) (valI c)) := by
  have k1 : 2 ≤ kindN b ∧ 0 ≤ partE b := by rcases whole_cases b with h1 | h1 | h1 | h1 <;> omega
  have k2 : 2 ≤ kindN c ∧ 0 ≤ partE c := by rcases whole_cases c with h1 | h1 | h1 | h1 <;> omega
  obtain ⟨k, hk⟩ : ∃ k : Nat, k = 1074 := ⟨_, rfl⟩
  have x1 : -(k : Int) ≤ expo b := by have := expo_ge b; omega
  have x2 : -(k : Int) ≤ expo c := by have := expo_ge c; omega
  show (Ieee.double.read b).order (Ieee.double.read c) = _
  rw [read_fin b hb k1.1, read_fin c hc k2.1, order_num k _ _ _ _ _ _ x1 x2, scaled_val b k x1 k1.1 k1.2, scaled_val c k x2 k2.1 k2.2, compare_scale]
theorem cmp_lt (x y : Int) : (some (compare x y) == some Ordering.lt) = decide (x < y) := by
  show (some (compareOfLessAndEq x y) == some Ordering.lt) = _
  unfold compareOfLessAndEq
  by_cases h : x < y
  · simp [h]
  · rw [if_neg h]; by_cases h2 : x = y <;> simp [h2, h]
theorem cmp_gt (x y : Int) : (some (compare x y) == some Ordering.gt) = decide (y < x) := by
  show (some (compareOfLessAndEq x y) == some Ordering.gt) = _
  unfold compareOfLessAndEq
  by_cases h : x < y
  · simp [h]; omega
  · rw [if_neg h]
    by_cases h2 : x = y
    · simp [h2]
    · simp [h2]; omega
theorem cmp_eq (x y : Int) : (some (compare x y) == some Ordering.eq) = decide (x = y) := by
  show (some (compareOfLessAndEq x y) == some Ordering.eq) = _
  unfold compareOfLessAndEq
  by_cases h : x < y
  · simp [h]; omega
  · rw [if_neg h]; by_cases h2 : x = y <;> simp [h2]
theorem lt_zero (b : Nat) (hb : b < 18446744073709551616) (h : wholeE b = 0) : (FloatKind.f64.format.order b 0 == some .lt) = decide (valI b < 0) := by
  rw [order_val b 0 hb h (by decide) (by decide +kernel), cmp_lt, show valI 0 = 0 from by decide +kernel]
theorem gt_most (b : Nat) (hb : b < 18446744073709551616) (h : wholeE b = 0) : (FloatKind.f64.format.order b 4746794007248502784 == some .gt) = decide (2147483648 < valI b) := by
  rw [order_val b _ hb h (by decide) (by decide +kernel), cmp_gt, show valI 4746794007248502784 = 2147483648 from by decide +kernel]
theorem lt_least (b : Nat) (hb : b < 18446744073709551616) (h : wholeE b = 0) : (FloatKind.f64.format.order b 14114281232179134464 == some .lt) = decide (valI b < -9223372036854775808) := by
  rw [order_val b _ hb h (by decide) (by decide +kernel), cmp_lt, show valI 14114281232179134464 = -9223372036854775808 from by decide +kernel]
theorem ge_beyond (b : Nat) (hb : b < 18446744073709551616) (h : wholeE b = 0) : (FloatKind.f64.format.order b 4890909195324358656 == some .gt || FloatKind.f64.format.order b 4890909195324358656 == some .eq) = decide (9223372036854775808 ≤ valI b) := by
  rw [order_val b _ hb h (by decide) (by decide +kernel), cmp_gt, cmp_eq, show valI 4890909195324358656 = 9223372036854775808 from by decide +kernel]
  rw [Bool.eq_iff_iff]; simp; omega
/-- A whole float, cut towards zero, is its number. -/
theorem cut_val (b : Nat) (hb : b < 18446744073709551616) (h : wholeE b = 0) : (FloatKind.f64.decode b).toInt .zero = some (valI b) := by
  have k1 : 2 ≤ kindN b ∧ 0 ≤ partE b := by rcases whole_cases b with h1 | h1 | h1 | h1 <;> omega
  obtain ⟨k, hk⟩ : ∃ k : Nat, k = 1074 := ⟨_, rfl⟩
  have x1 : -(k : Int) ≤ expo b := by have := expo_ge b; omega
  have hv := scaled_val b k x1 k1.1 k1.2
  clear hk
  show (Ieee.double.read b).toInt .zero = _
  rw [read_fin b hb k1.1]
  unfold Ieee.Datum.toInt Ieee.Datum.integral Ieee.Toward.cut
  simp only [Bool.toNat_false, Nat.add_zero]
  congr 1
  by_cases h0 : sig b = 0
  · rw [h0] at hv ⊢
    have : valI b * 2 ^ k = 0 := by rw [← hv]; unfold Ieee.signed; simp
    have hz : valI b = 0 := by
      rcases Int.mul_eq_zero.1 this with h1 | h1
      · exact h1
      · exact absurd h1 (Int.ne_of_gt (Int.pow_pos (by decide)))
    rw [hz]
    unfold Ieee.signed
    simp
  · obtain ⟨d1, d2, d3⟩ := od_spec (sig b) h0 (by have := sig_lt b; omega)
    have h3 : 3 ≤ kindN b := by
      rcases kind_cases b with ⟨h1, h2, h3⟩ | ⟨h1, h2, h3⟩ | ⟨h1, h2, h3⟩ | ⟨h1, h2, h3⟩ | ⟨h1, h2, h3⟩
      · omega
      · omega
      · exact absurd ((show sig b = fN b from if_pos h1).trans h2) h0
      · omega
      · omega
    have hM : partM b = od (sig b) := if_pos h3
    have hE : partE b = expo b + tz (sig b) := if_pos h3
    have hmag : sig b * 2 ^ (expo b).toNat / 2 ^ (-expo b).toNat = magN b := by
      unfold magN
      rw [hM]
      by_cases hn : 0 ≤ expo b
      · have e1 : (-expo b).toNat = 0 := by omega
        have e2 : (partE b).toNat = tz (sig b) + (expo b).toNat := by omega
        rw [e1, e2, Nat.pow_zero, Nat.div_one, Nat.pow_add, ← Nat.mul_assoc, ← d1]
      · have e1 : (expo b).toNat = 0 := by omega
        have e2 : tz (sig b) = (partE b).toNat + (-expo b).toNat := by omega
        have e3 : sig b = od (sig b) * 2 ^ (partE b).toNat * 2 ^ (-expo b).toNat := by
          rw [Nat.mul_assoc, ← Nat.pow_add, ← e2, ← d1]
        rw [e1, Nat.pow_zero, Nat.mul_one]
        conv => lhs; lhs; rw [e3]
        exact Nat.mul_div_cancel _ (Nat.pow_pos (by decide))
    have hmin : min (-expo b).toNat ((sig b <<< (expo b).toNat).log2 + 2) = (-expo b).toNat := by
      by_cases hn : 0 ≤ expo b
      · omega
      · have e1 : (expo b).toNat = 0 := by omega
        rw [e1, Nat.shiftLeft_zero]
        have h4 : 2 ^ tz (sig b) ≤ sig b := by
          conv => rhs; rw [d1]
          exact Nat.le_mul_of_pos_left _ (by omega)
        have h5 : tz (sig b) ≤ (sig b).log2 := (Nat.le_log2 h0).2 h4
        omega
    rw [hmin, Nat.shiftLeft_eq, Nat.shiftLeft_eq, Nat.one_mul, hmag]
    unfold Ieee.signed valI
    simp
/-- Between its room's ends such a float is turned into just its number. -/
theorem conv_val (b : Nat) (hb : b < 18446744073709551616) (h : intE b = 0) : floatToIntVal .f64 b .i64 = some (valI b) := by
  have h1 : wholeE b = 0 := by
    unfold intE at h
    by_cases hw : wholeE b ≠ 0
    · rw [if_pos hw] at h; exact h
    · omega
  have h2 : -9223372036854775808 ≤ valI b ∧ valI b ≤ 9223372036854775807 := by
    unfold intE at h
    rw [if_neg (by omega)] at h
    split at h
    · exact absurd h (by decide)
    · omega
  unfold floatToIntVal
  rw [cut_val b hb h1]
  exact if_pos h2
theorem intE_of_whole {b : Nat} (h : wholeE b ≠ 0) : intE b = wholeE b := if_pos h
theorem weightE_of_int {b : Nat} (h : intE b ≠ 0) : weightE b = intE b := if_pos h
theorem whole_rng (b : Nat) : wholeE b = 0 ∨ wholeE b = 11 ∨ wholeE b = 12 ∨ wholeE b = 13 := by
  rcases whole_cases b with h | h | h | h <;> omega
theorem int_rng (b : Nat) : intE b = 0 ∨ intE b = 10 ∨ intE b = 11 ∨ intE b = 12 ∨ intE b = 13 := by
  unfold intE
  have := whole_rng b
  split
  · omega
  · split <;> simp
theorem val_int {b : Nat} (h : intE b = 0) : -9223372036854775808 ≤ valI b ∧ valI b ≤ 9223372036854775807 := by
  unfold intE at h
  split at h
  · omega
  · split at h
    · exact absurd h (by decide)
    · omega
theorem intN_rng (b : Nat) : -9223372036854775808 ≤ intN b ∧ intN b ≤ 9223372036854775807 := by
  unfold intN
  split
  · exact val_int (by assumption)
  · omega
theorem int_tests (b : Nat) (hb : b < 18446744073709551616) : intE b = if wholeE b ≠ 0 then wholeE b else if (FloatKind.f64.format.order b 14114281232179134464 == some .lt) = true ∨ (FloatKind.f64.format.order b 4890909195324358656 == some .gt) = true ∨ (FloatKind.f64.format.order b 4890909195324358656 == some .eq) = true then 10 else 0 := by
  unfold intE
  by_cases h : wholeE b = 0
  · have h0 : ¬ wholeE b ≠ 0 := fun hc => hc h
    have h1 := lt_least b hb h
    have h2 := ge_beyond b hb h
    rw [Bool.eq_iff_iff, decide_eq_true_iff] at h1
    rw [Bool.eq_iff_iff, Bool.or_eq_true, decide_eq_true_iff] at h2
    rw [if_neg h0, if_neg h0]
    by_cases hv : valI b < -9223372036854775808 ∨ 9223372036854775808 ≤ valI b
    · rw [if_pos hv, if_pos (hv.elim (fun x => Or.inl (h1.2 x)) fun x => Or.inr (h2.2 x))]
    · rw [if_neg hv, if_neg fun x => hv (x.elim (fun x => Or.inl (h1.1 x)) fun x => Or.inr (h2.1 x))]
  · rw [if_pos h, if_pos h]
theorem weight_tests (b : Nat) (hb : b < 18446744073709551616) : weightE b = if wholeE b ≠ 0 then wholeE b else if (FloatKind.f64.format.order b 14114281232179134464 == some .lt) = true ∨ (FloatKind.f64.format.order b 4890909195324358656 == some .gt) = true ∨ (FloatKind.f64.format.order b 4890909195324358656 == some .eq) = true then 10 else if (FloatKind.f64.format.order b 0 == some .lt) = true ∨ (FloatKind.f64.format.order b 4746794007248502784 == some .gt) = true then 5 else 0 := by
  have hi := int_tests b hb
  unfold weightE
  by_cases h : wholeE b = 0
  · have h0 : ¬ wholeE b ≠ 0 := fun hc => hc h
    have h1 := lt_zero b hb h
    have h2 := gt_most b hb h
    rw [Bool.eq_iff_iff, decide_eq_true_iff] at h1 h2
    rw [if_neg h0] at hi ⊢
    split at hi
    · rename_i h3
      rw [if_pos (by omega), if_pos h3, hi]
    · rename_i h3
      rw [if_neg (by omega), if_neg h3]
      by_cases hv : valI b < 0 ∨ 2147483648 < valI b
      · rw [if_pos hv, if_pos (hv.elim (fun x => Or.inl (h1.2 x)) fun x => Or.inr (h2.2 x))]
      · rw [if_neg hv, if_neg fun x => hv (x.elim (fun x => Or.inl (h1.1 x)) fun x => Or.inr (h2.1 x))]
  · rw [if_pos h] at hi ⊢
    rw [if_pos (by omega), hi]
theorem weight_int {b : Nat} (h : weightE b = 0) : intE b = 0 := by
  unfold weightE at h
  split at h
  · omega
  · omega
theorem size_neg (n : Int) (h : n < 0) (h1 : -9223372036854775808 ≤ n) : IntKind.u64.wrap (-IntKind.u64.wrap n) = (n.natAbs : Int) := by
  have e : ∀ x : Int, IntKind.u64.wrap x = x % 18446744073709551616 := fun x => by simp [IntKind.wrap, IntKind.signed, IntKind.bits]
  rw [e, e]; omega
theorem size_pos (n : Int) (h : 0 ≤ n) (h2 : n ≤ 9223372036854775807) : n = (n.natAbs : Int) := by omega
theorem part_pos (b : Nat) (h : 0 < partE b) : 0 < partM b := by
  by_cases h3 : 3 ≤ kindN b
  · have hS : sig b ≠ 0 := by
      unfold sig
      rcases kind_cases b with ⟨h1, h2, h3⟩ | ⟨h1, h2, h3⟩ | ⟨h1, h2, h3⟩ | ⟨h1, h2, h3⟩ | ⟨h1, h2, h3⟩ <;> split <;> omega
    obtain ⟨d1, d2, d3⟩ := od_spec (sig b) hS (by have := sig_lt b; omega)
    have hM : partM b = od (sig b) := if_pos h3
    omega
  · have : partE b = 0 := if_neg h3
    omega
theorem neg_top (b : Nat) (h : 2 ≤ kindN b) : negB b = topB b := by
  unfold negB
  rw [decide_eq_true (by omega), Bool.and_true]
/-- What the document's doubling has come to. -/
def DblRel (b n i : Nat) : Prop := n = partM b * 2 ^ i ∧ i ≤ (partE b).toNat ∧ n < 18446744073709551616
theorem DblRel.start (b : Nat) : DblRel b (partM b) 0 := ⟨by simp, Nat.zero_le _, by have := (part_bounds b).1; omega⟩
theorem DblRel.step {b n i : Nat} (h : DblRel b n i) (hi : i < (partE b).toNat) (hn : n < 9223372036854775808) : DblRel b (n * 2) (i + 1) :=
  ⟨by rw [h.1, Nat.pow_succ, Nat.mul_assoc], hi, by omega⟩
theorem DblRel.done {b n i : Nat} (h : DblRel b n i) (hi : i = (partE b).toNat) : n = magN b := by rw [h.1, hi]; rfl
theorem neg_big {b : Nat} (hw : wholeE b = 0) (ht : topB b = true) (h : 9223372036854775808 < magN b) : intE b = 10 ∧ intN b = 0 := by
  have hv : valI b = -(magN b : Int) := by unfold valI; rw [ht]; rfl
  have : intE b = 10 := by unfold intE; rw [if_neg (by omega), if_pos (by omega)]
  exact ⟨this, if_neg (by omega)⟩
theorem pos_big {b : Nat} (hw : wholeE b = 0) (ht : topB b = false) (h : 9223372036854775808 ≤ magN b) : intE b = 10 ∧ intN b = 0 := by
  have hv : valI b = (magN b : Int) := by unfold valI; rw [ht]; rfl
  have : intE b = 10 := by unfold intE; rw [if_neg (by omega), if_pos (by omega)]
  exact ⟨this, if_neg (by omega)⟩
theorem neg_ok {b : Nat} (hw : wholeE b = 0) (ht : topB b = true) (h : magN b ≤ 9223372036854775808) : intE b = 0 ∧ intN b = -(magN b : Int) := by
  have hv : valI b = -(magN b : Int) := by unfold valI; rw [ht]; rfl
  have : intE b = 0 := by unfold intE; rw [if_neg (by omega), if_neg (by omega)]
  exact ⟨this, by rw [← hv]; exact if_pos this⟩
theorem pos_ok {b : Nat} (hw : wholeE b = 0) (ht : topB b = false) (h : magN b < 9223372036854775808) : intE b = 0 ∧ intN b = (magN b : Int) := by
  have hv : valI b = (magN b : Int) := by unfold valI; rw [ht]; rfl
  have : intE b = 0 := by unfold intE; rw [if_neg (by omega), if_neg (by omega)]
  exact ⟨this, by rw [← hv]; exact if_pos this⟩
theorem DblRel.big {b n i : Nat} (h : DblRel b n i) (hw : wholeE b = 0) (hi : i < (partE b).toNat) (hn : 9223372036854775808 ≤ n) : intE b = 10 ∧ intN b = 0 := by
  have hm : 9223372036854775808 < magN b := by
    have e : (partE b).toNat = i + ((partE b).toNat - i - 1 + 1) := by omega
    have : magN b = n * 2 ^ ((partE b).toNat - i - 1) * 2 := by
      unfold magN
      rw [e, Nat.pow_add, Nat.pow_succ, ← Nat.mul_assoc, ← Nat.mul_assoc, ← h.1]
      simp
    have hp : 0 < 2 ^ ((partE b).toNat - i - 1) := Nat.pow_pos (by decide)
    have := Nat.le_mul_of_pos_right n hp
    omega
  cases ht : topB b
  · exact pos_big hw ht (by omega)
  · exact neg_big hw ht hm
theorem wrap_neg (n : Nat) (h : n ≤ 9223372036854775808) : IntKind.i64.wrap (-IntKind.i64.wrap (n : Int)) = -(n : Int) := by
  have e : ∀ x : Int, IntKind.i64.wrap x = if x % 18446744073709551616 ≥ 9223372036854775808 then x % 18446744073709551616 - 18446744073709551616 else x % 18446744073709551616 := fun x => by simp [IntKind.wrap, IntKind.signed, IntKind.bits]
  rw [e n, e]
  split <;> split <;> omega
theorem weight_cases (b : Nat) : (intE b ≠ 0 ∧ intN b = 0 ∧ weightE b = intE b ∧ weightN b = 0) ∨ (intE b = 0 ∧ intN b < 0 ∧ weightE b = 5 ∧ weightN b = 0) ∨ (intE b = 0 ∧ 2147483648 < intN b ∧ weightE b = 5 ∧ weightN b = 0) ∨ (intE b = 0 ∧ 0 ≤ intN b ∧ intN b ≤ 2147483648 ∧ weightE b = 0 ∧ weightN b = intN b) := by
  by_cases h : intE b = 0
  · have hn : intN b = valI b := if_pos h
    by_cases hv : valI b < 0 ∨ 2147483648 < valI b
    · have he : weightE b = 5 := by unfold weightE; rw [if_neg (by omega), if_pos hv]
      have hz : weightN b = 0 := if_neg (by omega)
      rcases hv with hv | hv
      · exact Or.inr (Or.inl ⟨h, by omega, he, hz⟩)
      · exact Or.inr (Or.inr (Or.inl ⟨h, by omega, he, hz⟩))
    · have he : weightE b = 0 := by unfold weightE; rw [if_neg (by omega), if_neg hv]
      have hz : weightN b = valI b := if_pos he
      exact Or.inr (Or.inr (Or.inr ⟨h, by omega, by omega, he, by omega⟩))
  · have he : weightE b = intE b := if_pos h
    exact Or.inl ⟨h, if_neg h, he, if_neg (by omega)⟩
theorem weightN_rng (b : Nat) : 0 ≤ weightN b ∧ weightN b ≤ 2147483648 := by
  rcases weight_cases b with h | h | h | h <;> omega
/-- Whole is what Int tells to be a number, or beyond its room. -/
theorem whole_int (b : Nat) : (wholeE b == 0) = ((intE b == 0) || (intE b == 10)) := by
  have h := whole_rng b
  by_cases h0 : wholeE b = 0
  · have : intE b = 0 ∨ intE b = 10 := by unfold intE; rw [if_neg (by omega)]; split <;> simp
    rw [Bool.eq_iff_iff]; simp; omega
  · have : intE b = wholeE b := if_pos h0
    rw [Bool.eq_iff_iff]; simp; omega
end Go.Proofs.YtdbebebhldldmaaGreatDoor.FintPure
/- Plain facts on numbers told as floats and back. No program in sight. -/
namespace Go.Proofs.YtdbebebhldldmaaGreatDoor.FintPure
open Go.RowKit FbitPure
theorem top_parts (c : Nat) (hc : c < 9223372036854775808) (neg : Bool) : kindN (c + signW neg) = kindN c ∧ partM (c + signW neg) = partM c ∧ partE (c + signW neg) = partE c ∧ topB (c + signW neg) = neg := by
  obtain ⟨h1, h2, h3⟩ := top_add c hc neg
  have hk : kindN (c + signW neg) = kindN c := by unfold kindN; rw [h1, h2]
  have hs : sig (c + signW neg) = sig c := by unfold sig; rw [h1, h2]
  have he : expo (c + signW neg) = expo c := by unfold expo; rw [h1]
  exact ⟨hk, by unfold partM; rw [hk, hs], by unfold partE; rw [hk, hs, he], h3⟩
/-- A whole number of twos more: the same float. -/
theorem make_shift (neg : Bool) (m k : Nat) (hm : m % 2 = 1) (h : m * 2 ^ k < 18446744073709551616) : makeW neg (m * 2 ^ k) 0 = makeW neg m k ∧ makeOk (m * 2 ^ k) 0 = makeOk m k := by
  have hp : 0 < 2 ^ k := Nat.pow_pos (by decide)
  have hm2 : m ≤ m * 2 ^ k := Nat.le_mul_of_pos_right m hp
  obtain ⟨o1, o2⟩ := od_uniq (m * 2 ^ k) m k h hm rfl
  obtain ⟨o3, o4⟩ := od_odd m (by omega) hm
  have z1 : m * 2 ^ k ≠ 0 := by omega
  have z2 : m ≠ 0 := by omega
  have e : makeOk (m * 2 ^ k) 0 = makeOk m k := by
    unfold makeOk
    rw [o1, o2, o3, o4, decide_eq_false z1, decide_eq_false z2]
    simp
  refine ⟨?_, e⟩
  unfold makeW
  rw [e, o1, o2, o3, o4, if_neg z1, if_neg z2]
  simp
/-- The float of the number that a whole float is. -/
theorem back_float (b : Nat) (hb : b < 18446744073709551616) (h : intE b = 0) : makeOk (intN b).natAbs 0 = true ∧ (bitsN (makeW (decide (intN b < 0)) (intN b).natAbs 0) = b ∨ (b = 9223372036854775808 ∧ intN b = 0)) := by
  have hw : wholeE b = 0 := by
    unfold intE at h
    by_cases hw : wholeE b ≠ 0
    · rw [if_pos hw] at h; exact h
    · omega
  have hn : intN b = valI b := if_pos h
  have hr := val_int h
  have k1 : 2 ≤ kindN b ∧ 0 ≤ partE b := by rcases whole_cases b with h1 | h1 | h1 | h1 <;> omega
  by_cases h2 : kindN b = 2
  · have hM : partM b = 0 := if_neg (by omega)
    have hv : intN b = 0 := by rw [hn]; unfold valI magN; rw [hM]; simp
    have hE : eN b = 0 ∧ fN b = 0 := by
      rcases kind_cases b with ⟨h1, h2, h3⟩ | ⟨h1, h2, h3⟩ | ⟨h1, h2, h3⟩ | ⟨h1, h2, h3⟩ | ⟨h1, h2, h3⟩ <;> omega
    have hwd := word_eq b hb
    rw [hE.1, hE.2] at hwd
    rw [hv]
    refine ⟨by decide, ?_⟩
    cases ht : topB b
    · rw [ht] at hwd
      left
      have : b = 0 := by simpa [signW] using hwd
      rw [this]
      decide +kernel
    · rw [ht] at hwd
      right
      exact ⟨by simpa [signW] using hwd, rfl⟩
  · have h3 : 3 ≤ kindN b := by omega
    have hS : sig b ≠ 0 := by
      unfold sig
      rcases kind_cases b with ⟨h1, h2, h3⟩ | ⟨h1, h2, h3⟩ | ⟨h1, h2, h3⟩ | ⟨h1, h2, h3⟩ | ⟨h1, h2, h3⟩ <;> split <;> omega
    obtain ⟨d1, d2, d3⟩ := od_spec (sig b) hS (by have := sig_lt b; omega)
    have hM : partM b = od (sig b) := if_pos h3
    have hodd : partM b % 2 = 1 := by rw [hM]; exact d2
    have hmag : valI b = if topB b then -(magN b : Int) else magN b := rfl
    have hm0 : 0 < magN b := Nat.mul_pos (by omega) (Nat.pow_pos (by decide))
    have hmb : magN b < 18446744073709551616 := by
      cases ht : topB b <;> rw [ht] at hmag <;> simp at hmag <;> omega
    have hab : (intN b).natAbs = magN b := by
      rw [hn]
      cases ht : topB b <;> rw [ht] at hmag <;> simp at hmag <;> omega
    have hsg : decide (intN b < 0) = negB b := by
      rw [neg_top b k1.1, hn]
      cases ht : topB b <;> rw [ht] at hmag <;> simp at hmag <;> rw [hmag] <;> simp <;> omega
    obtain ⟨s1, s2⟩ := make_shift (negB b) (partM b) (partE b).toNat hodd hmb
    have hpe : (((partE b).toNat : Nat) : Int) = partE b := by omega
    obtain ⟨q1, q2⟩ := back_word b hb (by unfold partOk; simp; omega)
    rw [hab, hsg]
    unfold magN
    rw [s1, s2, hpe]
    exact ⟨q1, Or.inl q2⟩
/-- The number of the float that a number has. -/
theorem back_int (n : Int) (h1 : -9223372036854775808 ≤ n) (h2 : n ≤ 9223372036854775807) (h : makeOk n.natAbs 0 = true) : intE (makeW (decide (n < 0)) n.natAbs 0) = 0 ∧ intN (makeW (decide (n < 0)) n.natAbs 0) = n := by
  by_cases h0 : n = 0
  · subst h0
    decide +kernel
  · have hk0 : n.natAbs ≠ 0 := by omega
    have hk1 : n.natAbs < 18446744073709551616 := by omega
    obtain ⟨p1, p2, p3, -, -⟩ := make_parts n.natAbs 0 hk1 hk0 h
    have hok : okN (od n.natAbs) (0 + tz n.natAbs) = true := by
      unfold makeOk at h
      rw [decide_eq_false hk0, Bool.false_or] at h
      exact h
    obtain ⟨d1, d2, d3⟩ := od_spec n.natAbs hk0 hk1
    have hc : makeW false n.natAbs 0 < 9223372036854775808 := by
      rw [(make_yes false n.natAbs 0 hk0 hok).1]
      obtain ⟨o1, o2, o3⟩ := (okN_iff _ _).1 hok
      have := (word_parts (od n.natAbs) (0 + tz n.natAbs) (by omega) (by have := od_lt n.natAbs; omega) o1 o2 o3).1
      have : signW false = 0 := rfl
      omega
    have hs : makeW (decide (n < 0)) n.natAbs 0 = makeW false n.natAbs 0 + signW (decide (n < 0)) := by
      rw [(make_yes _ n.natAbs 0 hk0 hok).1, (make_yes false n.natAbs 0 hk0 hok).1]
      have : signW false = 0 := rfl
      omega
    obtain ⟨t1, t2, t3, t4⟩ := top_parts _ hc (decide (n < 0))
    rw [← hs] at t1 t2 t3 t4
    generalize makeW (decide (n < 0)) n.natAbs 0 = c at *
    have hk2 : 2 ≤ kindN c := by rw [t1]; unfold partOk at p1; simpa using p1
    have hE : partE c = tz n.natAbs := by rw [t3, p3]; omega
    have hmag : magN c = n.natAbs := by
      unfold magN
      rw [t2, p2, hE, Int.toNat_natCast]
      exact d1.symm
    have hw : wholeE c = 0 := by rcases whole_cases c with q | q | q | q <;> omega
    have hv : valI c = n := by
      unfold valI
      rw [t4, hmag]
      by_cases hn : n < 0
      · rw [decide_eq_true hn]; simp; omega
      · rw [decide_eq_false hn]; simp; omega
    have hi : intE c = 0 := by unfold intE; rw [if_neg (by omega), if_neg (by omega)]
    exact ⟨hi, by rw [← hv]; exact if_pos hi⟩
theorem make_none (neg : Bool) (m : Nat) (e : Int) (h : makeOk m e = false) : makeW neg m e = 0 := by
  unfold makeW; rw [h]; rfl
/-- Up to 2^53 each number has a float. -/
theorem ok_small (k : Nat) (h : k ≤ 9007199254740992) : makeOk k 0 = true := by
  unfold makeOk
  by_cases h0 : k = 0
  · rw [decide_eq_true h0]; rfl
  · obtain ⟨d1, d2, d3⟩ := od_spec k h0 (by omega)
    have hl := od_lt k
    have hb : bl (od k) ≤ 53 := (bl_le (od k) 53 (by omega) (by omega)).2 (by omega)
    rw [(okN_iff _ _).2 ⟨hb, by omega, by omega⟩, Bool.or_true]
end Go.Proofs.YtdbebebhldldmaaGreatDoor.FintPure
