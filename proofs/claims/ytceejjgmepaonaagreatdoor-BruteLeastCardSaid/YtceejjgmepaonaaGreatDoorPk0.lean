/- Plain facts on whole numbers of 64 bits: when a sum, a difference and a product fit, and what the signs of the words say of it. No program in sight. -/
import Derived.WalkKit
namespace Go.Proofs.YtceejjgmepaonaaGreatDoor.NumPure
open Go.RowKit

theorem bv_wrap (x : BitVec 64) : IntKind.i64.wrap (x.toNat : Int) = x.toInt := by
  rw [IntKind.wrap_i64, BitVec.toInt_eq_toNat_cond]
  have := x.isLt
  split <;> omega
theorem xor_bv (x y : Int) : bits .xor .i64 x y = (BitVec.ofInt 64 x ^^^ BitVec.ofInt 64 y).toInt := bv_wrap _
theorem and_bv (x y : Int) : bits .and .i64 x y = (BitVec.ofInt 64 x &&& BitVec.ofInt 64 y).toInt := bv_wrap _
theorem neg_msb (x : Int) (h : -9223372036854775808 ≤ x ∧ x ≤ 9223372036854775807) : (BitVec.ofInt 64 x).msb = decide (x < 0) := by
  rw [BitVec.msb_eq_toInt, BitVec.toInt_ofInt]
  have : x.bmod (2 ^ 64) = x := by
    rw [Int.bmod_def]; split <;> omega
  rw [this]
/-- The sign trick: (x ^ y) & (z ^ u) is below 0 just where x, y part in sign and z, u do. -/
theorem trick (x y z u : Int) (hx : -9223372036854775808 ≤ x ∧ x ≤ 9223372036854775807) (hy : -9223372036854775808 ≤ y ∧ y ≤ 9223372036854775807)
    (hz : -9223372036854775808 ≤ z ∧ z ≤ 9223372036854775807) (hu : -9223372036854775808 ≤ u ∧ u ≤ 9223372036854775807) :
    decide (bits .and .i64 (bits .xor .i64 x y) (bits .xor .i64 z u) < 0) = ((decide (x < 0) != decide (y < 0)) && (decide (z < 0) != decide (u < 0))) := by
  rw [and_bv, xor_bv, xor_bv, BitVec.ofInt_toInt, BitVec.ofInt_toInt, ← BitVec.msb_eq_toInt, BitVec.msb_and, BitVec.msb_xor, BitVec.msb_xor, neg_msb x hx, neg_msb y hy, neg_msb z hz, neg_msb u hu]
theorem wrap64_in (n : Int) (h : -9223372036854775808 ≤ n ∧ n ≤ 9223372036854775807) : wrap64 n = n := by unfold wrap64; omega
theorem wrap64_rng (n : Int) : -9223372036854775808 ≤ wrap64 n ∧ wrap64 n ≤ 9223372036854775807 := by unfold wrap64; omega

/-- n fits into 64 bits. -/
def fitsB (n : Int) : Bool := decide (-9223372036854775808 ≤ n) && decide (n ≤ 9223372036854775807)
/-- n where it fits, else 0. -/
def cut (n : Int) : Int := bif fitsB n then n else 0
theorem fits_iff (n : Int) : fitsB n = true ↔ (-9223372036854775808 ≤ n ∧ n ≤ 9223372036854775807) := by unfold fitsB; simp
theorem fits_not (n : Int) : fitsB n = false ↔ ¬ (-9223372036854775808 ≤ n ∧ n ≤ 9223372036854775807) := by
  rw [← fits_iff]; simp
theorem cut_in {n : Int} (h : -9223372036854775808 ≤ n ∧ n ≤ 9223372036854775807) : cut n = n := by
  unfold cut; rw [(fits_iff n).2 h]; rfl
theorem cut_out {n : Int} (h : ¬ (-9223372036854775808 ≤ n ∧ n ≤ 9223372036854775807)) : cut n = 0 := by
  unfold cut; rw [(fits_not n).2 h]; rfl
theorem cut_rng (n : Int) : -9223372036854775808 ≤ cut n ∧ cut n ≤ 9223372036854775807 := by
  by_cases h : -9223372036854775808 ≤ n ∧ n ≤ 9223372036854775807
  · rw [cut_in h]; exact h
  · rw [cut_out h]; omega

theorem add_yes (a b : Int) (ha : -9223372036854775808 ≤ a ∧ a ≤ 9223372036854775807) (hb : -9223372036854775808 ≤ b ∧ b ≤ 9223372036854775807)
    (h : -9223372036854775808 ≤ a + b ∧ a + b ≤ 9223372036854775807) :
    decide (bits .and .i64 (bits .xor .i64 a (a + b)) (bits .xor .i64 b (a + b)) < 0) = false := by
  rw [trick a (a + b) b (a + b) ha h hb h]
  by_cases h1 : a < 0 <;> by_cases h2 : b < 0 <;> by_cases h3 : a + b < 0 <;> simp [h1, h2, h3] <;> omega
theorem add_no (a b : Int) (ha : -9223372036854775808 ≤ a ∧ a ≤ 9223372036854775807) (hb : -9223372036854775808 ≤ b ∧ b ≤ 9223372036854775807)
    (h : ¬ (-9223372036854775808 ≤ a + b ∧ a + b ≤ 9223372036854775807)) :
    decide (bits .and .i64 (bits .xor .i64 a (wrap64 (a + b))) (bits .xor .i64 b (wrap64 (a + b))) < 0) = true := by
  rw [trick a _ b _ ha (wrap64_rng _) hb (wrap64_rng _)]
  unfold wrap64
  by_cases h1 : a < 0 <;> by_cases h2 : b < 0 <;> by_cases h3 : (a + b + 9223372036854775808) % 18446744073709551616 - 9223372036854775808 < 0 <;> simp [h1, h2, h3] <;> omega
theorem sub_yes (a b : Int) (ha : -9223372036854775808 ≤ a ∧ a ≤ 9223372036854775807) (hb : -9223372036854775808 ≤ b ∧ b ≤ 9223372036854775807)
    (h : -9223372036854775808 ≤ a - b ∧ a - b ≤ 9223372036854775807) :
    decide (bits .and .i64 (bits .xor .i64 a b) (bits .xor .i64 a (a - b)) < 0) = false := by
  rw [trick a b a (a - b) ha hb ha h]
  by_cases h1 : a < 0 <;> by_cases h2 : b < 0 <;> by_cases h3 : a - b < 0 <;> simp [h1, h2, h3] <;> omega
theorem sub_no (a b : Int) (ha : -9223372036854775808 ≤ a ∧ a ≤ 9223372036854775807) (hb : -9223372036854775808 ≤ b ∧ b ≤ 9223372036854775807)
    (h : ¬ (-9223372036854775808 ≤ a - b ∧ a - b ≤ 9223372036854775807)) :
    decide (bits .and .i64 (bits .xor .i64 a b) (bits .xor .i64 a (wrap64 (a - b))) < 0) = true := by
  rw [trick a b a _ ha hb ha (wrap64_rng _)]
  unfold wrap64
  by_cases h1 : a < 0 <;> by_cases h2 : b < 0 <;> by_cases h3 : (a - b + 9223372036854775808) % 18446744073709551616 - 9223372036854775808 < 0 <;> simp [h1, h2, h3] <;> omega
theorem size_neg (a : Int) (h : -9223372036854775808 ≤ a ∧ a < 0) : IntKind.u64.wrap (-IntKind.u64.wrap a) = (a.natAbs : Int) := by
  rw [IntKind.wrap_u64, IntKind.wrap_u64]; omega
theorem neg_back (n : Int) (h : 0 ≤ n ∧ n ≤ 9223372036854775808) : wrap64 (IntKind.u64.wrap (-n)) = -n := by
  rw [IntKind.wrap_u64]; unfold wrap64; omega
/-- The two words of a product. -/
def hiN (x y : Nat) : Int := ((x * y / 18446744073709551616 : Nat) : Int)
def loN (x y : Nat) : Int := ((x * y % 18446744073709551616 : Nat) : Int)
theorem loN_rng (x y : Nat) : 0 ≤ loN x y ∧ loN x y ≤ 18446744073709551615 := by unfold loN; omega
/-- far, below 0 or above. -/
def signN (far : Int) (below : Bool) : Int := bif below then -far else far
theorem natAbs_mul_eq (a b : Int) : a.natAbs * b.natAbs = (a * b).natAbs := (Int.natAbs_mul a b).symm
theorem hi_big (a b : Int) (h : hiN a.natAbs b.natAbs ≠ 0) : ¬ (-9223372036854775808 ≤ a * b ∧ a * b ≤ 9223372036854775807) := by
  unfold hiN at h; rw [natAbs_mul_eq] at h; omega
theorem mul_neg_iff (a b : Int) (h : a * b ≠ 0) : (decide (a < 0) != decide (b < 0)) = decide (a * b < 0) := by
  rcases Int.lt_trichotomy a 0 with ha | ha | ha
  · rcases Int.lt_trichotomy b 0 with hb | hb | hb
    · have := Int.mul_pos_of_neg_of_neg ha hb
      simp [ha, hb, show ¬ a * b < 0 by omega]
    · subst hb; simp at h
    · have := Int.mul_neg_of_neg_of_pos ha hb
      simp [ha, this, show ¬ b < 0 by omega]
  · subst ha; simp at h
  · rcases Int.lt_trichotomy b 0 with hb | hb | hb
    · have := Int.mul_neg_of_pos_of_neg ha hb
      simp [hb, this, show ¬ a < 0 by omega]
    · subst hb; simp at h
    · have := Int.mul_pos ha hb
      simp [show ¬ a < 0 by omega, show ¬ b < 0 by omega, show ¬ a * b < 0 by omega]
theorem lo_sign (a b : Int) (h : hiN a.natAbs b.natAbs = 0) : signN (loN a.natAbs b.natAbs) (decide (a < 0) != decide (b < 0)) = a * b := by
  unfold hiN at h; unfold loN signN
  rw [natAbs_mul_eq] at h ⊢
  by_cases hz : a * b = 0
  · rw [hz]; cases (decide (a < 0) != decide (b < 0)) <;> rfl
  · rw [mul_neg_iff a b hz]
    by_cases hn : a * b < 0
    · simp only [hn, decide_true, cond_true]; omega
    · simp only [hn, decide_false, cond_false]; omega
theorem quo_fit (a b : Int) (ha : -9223372036854775808 ≤ a ∧ a ≤ 9223372036854775807) (hb : b ≠ 0) : wrap64 ((a * b).tdiv b) = a := by
  rw [Int.mul_tdiv_cancel a hb]; exact wrap64_in a ha
theorem quo_fit_left (a b : Int) (hb : -9223372036854775808 ≤ b ∧ b ≤ 9223372036854775807) (ha : a ≠ 0) : wrap64 ((a * b).tdiv a) = b := by
  rw [Int.mul_tdiv_cancel_left b ha]; exact wrap64_in b hb
/-- A product that does not fit is not divided again. -/
theorem quo_out (a b : Int) (ha : -9223372036854775808 ≤ a ∧ a ≤ 9223372036854775807) (hb : -9223372036854775808 ≤ b ∧ b ≤ 9223372036854775807) (hb0 : b ≠ 0)
    (hs : ¬ (b = -1 ∧ a = -9223372036854775808)) (h : ¬ (-9223372036854775808 ≤ a * b ∧ a * b ≤ 9223372036854775807)) : wrap64 ((wrap64 (a * b)).tdiv b) ≠ a := by
  intro he
  have hp := wrap64_rng (a * b)
  obtain ⟨k, hk⟩ : ∃ k, wrap64 (a * b) = a * b - k * 18446744073709551616 := ⟨(a * b + 9223372036854775808) / 18446744073709551616, by unfold wrap64; omega⟩
  have hne : wrap64 (a * b) ≠ a * b := fun e => h (e ▸ hp)
  generalize wrap64 (a * b) = p at *
  have h1 := Int.mul_tdiv_add_tmod p b
  have h2 := Int.natAbs_tmod p b
  have h3 := Int.natAbs_tdiv_le_natAbs p b
  have h4 : (p.tmod b).natAbs < b.natAbs := by rw [h2]; exact Nat.mod_lt _ (by omega)
  generalize p.tdiv b = q at *
  generalize p.tmod b = r at *
  have hq : q = a ∨ (q = 9223372036854775808 ∧ a = -9223372036854775808) := by unfold wrap64 at he; omega
  rcases hq with rfl | ⟨rfl, rfl⟩
  · rw [Int.mul_comm b q] at h1; omega
  · omega
theorem wrap_add_up (a b : Int) (ha : a ≤ 9223372036854775807) (hb0 : 0 ≤ b) (hb : b ≤ 9223372036854775807) (h : ¬ (a + b ≤ 9223372036854775807)) : wrap64 (a + b) < a := by unfold wrap64; omega
theorem wrap_add_down (a b : Int) (_ha : -9223372036854775808 ≤ a) (hb0 : b < 0) (hb : -9223372036854775808 ≤ b) (h : ¬ (-9223372036854775808 ≤ a + b)) : a < wrap64 (a + b) := by unfold wrap64; omega
theorem wrap_sub_down (a b : Int) (ha : -9223372036854775808 ≤ a) (hb0 : 0 ≤ b) (hb : b ≤ 9223372036854775807) (h : ¬ (-9223372036854775808 ≤ a - b)) : a < wrap64 (a - b) := by unfold wrap64; omega
theorem wrap_sub_up (a b : Int) (_ha : a ≤ 9223372036854775807) (hb0 : b < 0) (hb : -9223372036854775808 ≤ b) (h : ¬ (a - b ≤ 9223372036854775807)) : wrap64 (a - b) < a := by unfold wrap64; omega
/-- One number more on a sum: from the first one that does not fit on there is none. -/
def stepS (p : Int × Bool) (n : Int) : Int × Bool := bif p.2 then (cut (p.1 + n), fitsB (p.1 + n)) else (0, false)
def sumS (l : List Int) : Int × Bool := l.foldl stepS (0, true)
theorem sumS_snoc (l : List Int) (n : Int) : sumS (l ++ [n]) = stepS (sumS l) n := by simp [sumS, List.foldl_append]
theorem sumS_take (l : List Int) (k : Nat) (h : k < l.length) : sumS (l.take (k + 1)) = stepS (sumS (l.take k)) (l.getD k 0) := by
  rw [List.take_succ_eq_append_getElem h, sumS_snoc]
  simp [List.getD_eq_getElem?_getD, List.getElem?_eq_getElem h]
theorem step_no (l : List Int) : l.foldl stepS (0, false) = (0, false) := by
  induction l with
  | nil => rfl
  | cons n l ih => exact ih
theorem step_ok (p : Int × Bool) (n : Int) (h : p.2 = true) : stepS p n = (cut (p.1 + n), fitsB (p.1 + n)) := by unfold stepS; rw [h]; rfl
theorem step_bad (p : Int × Bool) (n : Int) (h : p.2 = false) : stepS p n = (0, false) := by unfold stepS; rw [h]; rfl
theorem step_rng (p : Int × Bool) (n : Int) : -9223372036854775808 ≤ (stepS p n).1 ∧ (stepS p n).1 ≤ 9223372036854775807 := by
  cases h : p.2
  · rw [step_bad p n h]; simp
  · rw [step_ok p n h]; exact cut_rng _
theorem fold_rng (l : List Int) : ∀ p : Int × Bool, (-9223372036854775808 ≤ p.1 ∧ p.1 ≤ 9223372036854775807) → (-9223372036854775808 ≤ (l.foldl stepS p).1 ∧ (l.foldl stepS p).1 ≤ 9223372036854775807) := by
  induction l with
  | nil => intro p h; exact h
  | cons n l ih => intro p _; exact ih _ (step_rng p n)
theorem sumS_rng (l : List Int) : -9223372036854775808 ≤ (sumS l).1 ∧ (sumS l).1 ≤ 9223372036854775807 := fold_rng l _ (by simp)
theorem fold_zero (l : List Int) : ∀ p : Int × Bool, (p.2 = false → p.1 = 0) → (l.foldl stepS p).2 = false → (l.foldl stepS p).1 = 0 := by
  induction l with
  | nil => intro p h; exact h
  | cons n l ih =>
    intro p h
    refine ih _ ?_
    cases hp : p.2
    · rw [step_bad p n hp]; simp
    · rw [step_ok p n hp]
      intro hf
      exact cut_out ((fits_not _).1 hf)
theorem sumS_zero (l : List Int) (h : (sumS l).2 = false) : (sumS l).1 = 0 := fold_zero l _ (by simp) h
/-- From the first one that does not fit on there is none. -/
theorem sumS_stays (l : List Int) (k : Nat) (h : (sumS (l.take k)).2 = false) : sumS l = (0, false) := by
  have h0 := sumS_zero _ h
  have h1 : sumS (l.take k) = (0, false) := Prod.ext h0 h
  have h2 : sumS l = (l.drop k).foldl stepS (sumS (l.take k)) := by
    unfold sumS
    rw [← List.foldl_append, List.take_append_drop]
  rw [h2, h1]; exact step_no _
theorem sumS_pair (l : List Int) : sumS l = ((sumS l).1, (sumS l).2) := rfl
end Go.Proofs.YtceejjgmepaonaaGreatDoor.NumPure
