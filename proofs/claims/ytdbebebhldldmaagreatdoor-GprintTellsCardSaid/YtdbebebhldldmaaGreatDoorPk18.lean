/- Plain facts on floats' words: how a number falls into an odd one and a power of two, how many bits it has, and what a word of 64 bits is as a float. No program in sight. -/
import Derived.WalkKit
import Derived.Lib.BitFns
import Derived.Lib.TrailingZeros
import Derived.Laws.Bits64b
import Derived.Laws.BitsAllLaws
namespace Go.Proofs.YtdbebebhldldmaaGreatDoor.FbitPure
open Go.RowKit

/-- How many twos are in x. -/
def tz (x : Nat) : Nat := Lib.ctz 64 x
/-- x without its twos. -/
def od (x : Nat) : Nat := x / 2 ^ tz x
/-- How many bits x has. -/
def bl (x : Nat) : Nat := Lib.bitLen x

theorem od_spec (x : Nat) (h0 : x ≠ 0) (h : x < 18446744073709551616) : x = od x * 2 ^ tz x ∧ od x % 2 = 1 ∧ tz x < 64 := by
  obtain ⟨m, hm, hk⟩ := Lib.ctzFrom_spec 64 x (by omega) h
  have e : tz x = Lib.ctzFrom 64 x := by simp [tz, Lib.ctz, h0]
  rw [← e] at hm hk
  have ho : od x = 2 * m + 1 := by
    unfold od
    rw [Nat.div_eq_of_eq_mul_right (Nat.two_pow_pos _) hm]
  refine ⟨?_, by omega, hk⟩
  rw [ho, Nat.mul_comm]; exact hm
theorem ctz_uniq : ∀ (k f m : Nat), m % 2 = 1 → m * 2 ^ k < 2 ^ f → Lib.ctzFrom f (m * 2 ^ k) = k
  | 0, f, m, hm, h => by
    cases f with
    | zero => simp at h; omega
    | succ f => simp [Lib.ctzFrom, hm]
  | k + 1, f, m, hm, h => by
    cases f with
    | zero =>
      have := Nat.two_pow_pos (k + 1)
      have : m * 2 ^ (k + 1) = 0 := by simp at h; omega
      rcases Nat.mul_eq_zero.1 this with h1 | h1
      · omega
      · omega
    | succ f =>
      have e : m * 2 ^ (k + 1) = 2 * (m * 2 ^ k) := by rw [Nat.pow_succ, ← Nat.mul_assoc, Nat.mul_comm]
      have h2 : m * 2 ^ k < 2 ^ f := by rw [e, Nat.pow_succ] at h; omega
      have ih := ctz_uniq k f m hm h2
      unfold Lib.ctzFrom
      rw [e, if_neg (by omega), show 2 * (m * 2 ^ k) / 2 = m * 2 ^ k by omega, ih]
      omega
theorem od_uniq (x m k : Nat) (h : x < 18446744073709551616) (hm : m % 2 = 1) (hx : x = m * 2 ^ k) : od x = m ∧ tz x = k := by
  have hp := Nat.two_pow_pos k
  have h0 : x ≠ 0 := by
    rw [hx]; exact Nat.mul_ne_zero (by omega) (by omega)
  have hk : tz x = k := by
    have : tz x = Lib.ctzFrom 64 x := by simp [tz, Lib.ctz, h0]
    rw [this, hx]
    exact ctz_uniq k 64 m hm (by rw [← hx]; exact h)
  refine ⟨?_, hk⟩
  unfold od
  rw [hk, hx, Nat.mul_div_cancel _ hp]
theorem od_odd (x : Nat) (h : x < 18446744073709551616) (hm : x % 2 = 1) : od x = x ∧ tz x = 0 := od_uniq x x 0 h hm (by simp)
theorem od_even (x : Nat) (h : x < 18446744073709551616) (h0 : x ≠ 0) (hm : x % 2 = 0) : od (x / 2) = od x ∧ tz x = tz (x / 2) + 1 := by
  obtain ⟨h1, h2, h3⟩ := od_spec (x / 2) (by omega) (by omega)
  have := od_uniq x (od (x / 2)) (tz (x / 2) + 1) h h2 (by rw [Nat.pow_succ, ← Nat.mul_assoc, ← h1]; omega)
  exact ⟨this.1.symm, this.2⟩
theorem od_lt (x : Nat) : od x ≤ x := Nat.div_le_self _ _
theorem od_double (x k : Nat) (h0 : x ≠ 0) (h : x * 2 ^ k < 18446744073709551616) : od (x * 2 ^ k) = od x ∧ tz (x * 2 ^ k) = tz x + k := by
  have hp := Nat.two_pow_pos k
  have hx : x < 18446744073709551616 := Nat.lt_of_le_of_lt (Nat.le_mul_of_pos_right _ hp) h
  obtain ⟨h1, h2, h3⟩ := od_spec x h0 hx
  exact od_uniq _ (od x) (tz x + k) h h2 (by rw [Nat.pow_add, ← Nat.mul_assoc, ← h1])

theorem blA : ∀ (f x : Nat), x < 2 ^ f → x < 2 ^ Lib.bitLenAux f x ∧ (x ≠ 0 → 2 ^ Lib.bitLenAux f x ≤ 2 * x ∧ 1 ≤ Lib.bitLenAux f x)
  | 0, x, h => by simp at h; subst h; simp [Lib.bitLenAux]
  | f + 1, x, h => by
    unfold Lib.bitLenAux
    by_cases h0 : x = 0
    · subst h0; simp
    · rw [if_neg h0]
      obtain ⟨h1, h2⟩ := blA f (x / 2) (by rw [Nat.pow_succ] at h; omega)
      rw [Nat.add_comm 1, Nat.pow_succ]
      refine ⟨by omega, fun _ => ⟨?_, by omega⟩⟩
      by_cases h3 : x / 2 = 0
      · have : x = 1 := by omega
        subst this
        have : Lib.bitLenAux f (1 / 2) = 0 := by cases f <;> simp [Lib.bitLenAux]
        rw [this]; simp
      · have := (h2 h3).1; omega
theorem bl_spec (x : Nat) (h0 : x ≠ 0) (h : x < 18446744073709551616) : x < 2 ^ bl x ∧ 2 ^ bl x ≤ 2 * x ∧ 1 ≤ bl x ∧ bl x ≤ 64 := by
  obtain ⟨h1, h2⟩ := blA 64 x h
  refine ⟨h1, (h2 h0).1, (h2 h0).2, ?_⟩
  have h3 := (h2 h0).1
  refine Nat.le_of_not_lt fun hc => ?_
  have : 2 ^ 65 ≤ 2 ^ bl x := Nat.pow_le_pow_right (by decide) hc
  have h4 : 2 ^ bl x ≤ 2 * x := h3
  omega
theorem bl_le (x k : Nat) (h0 : x ≠ 0) (h : x < 18446744073709551616) : bl x ≤ k ↔ x < 2 ^ k := by
  obtain ⟨h1, h2, h3, h4⟩ := bl_spec x h0 h
  constructor
  · intro hk
    exact Nat.lt_of_lt_of_le h1 (Nat.pow_le_pow_right (by decide) hk)
  · intro hk
    refine Nat.le_of_not_lt fun hc => ?_
    have : 2 ^ (k + 1) ≤ 2 ^ bl x := Nat.pow_le_pow_right (by decide) hc
    rw [Nat.pow_succ] at this
    omega
theorem bl_shift (x k j : Nat) (h0 : x ≠ 0) (h : x * 2 ^ k < 18446744073709551616) : x * 2 ^ k < 2 ^ j ↔ bl x + k ≤ j := by
  have hp := Nat.two_pow_pos k
  have hx : x < 18446744073709551616 := Nat.lt_of_le_of_lt (Nat.le_mul_of_pos_right _ hp) h
  obtain ⟨h1, h2, h3, h4⟩ := bl_spec x h0 hx
  constructor
  · intro hj
    refine Nat.le_of_not_lt fun hc => ?_
    by_cases hkj : k ≤ j
    · obtain ⟨d, rfl⟩ : ∃ d, j = k + d := ⟨j - k, by omega⟩
      have : bl x ≤ d := (bl_le x d h0 hx).2 (by rw [Nat.pow_add, Nat.mul_comm (2 ^ k)] at hj; exact Nat.lt_of_mul_lt_mul_right hj)
      omega
    · have a1 : 2 ^ j ≤ 2 ^ k := Nat.pow_le_pow_right (by decide) (by omega)
      have a2 : 2 ^ k ≤ x * 2 ^ k := Nat.le_mul_of_pos_left _ (by omega)
      omega
  · intro hj
    have a1 : x * 2 ^ k < 2 ^ bl x * 2 ^ k := Nat.mul_lt_mul_of_pos_right h1 hp
    rw [← Nat.pow_add] at a1
    exact Nat.lt_of_lt_of_le a1 (Nat.pow_le_pow_right (by decide) hj)

/-- The eleven bits e of the word b. -/
def eN (b : Nat) : Nat := b / 4503599627370496 % 2048
/-- The fifty-two bits f of the word b. -/
def fN (b : Nat) : Nat := b % 4503599627370496
/-- Which kind of float the word b is: 0 no number, 1 infinite, 2 nought, 3 small, 4 normal. -/
def kindN (b : Nat) : Int := if eN b = 2047 then (if fN b = 0 then 1 else 0) else if eN b = 0 then (if fN b = 0 then 2 else 3) else 4
/-- The sign's bit, as a word. -/
def signW (neg : Bool) : Nat := if neg then 9223372036854775808 else 0
def bitsN (b : Nat) : Nat := if kindN b = 0 then 9221120237041090560 else b
def topB (b : Nat) : Bool := decide (9223372036854775808 ≤ b)
def negB (b : Nat) : Bool := topB b && decide (kindN b ≠ 0)
/-- The word's number without the power of two, and the power. -/
def sig (b : Nat) : Nat := if eN b = 0 then fN b else fN b + 4503599627370496
def expo (b : Nat) : Int := (if eN b = 0 then 1 else (eN b : Int)) - 1075
def partOk (b : Nat) : Bool := decide (2 ≤ kindN b)
def partM (b : Nat) : Nat := if 3 ≤ kindN b then od (sig b) else 0
def partE (b : Nat) : Int := if 3 ≤ kindN b then expo b + tz (sig b) else 0

theorem kind_cases (b : Nat) :
    (eN b = 2047 ∧ fN b ≠ 0 ∧ kindN b = 0) ∨ (eN b = 2047 ∧ fN b = 0 ∧ kindN b = 1) ∨ (eN b = 0 ∧ fN b = 0 ∧ kindN b = 2) ∨ (eN b = 0 ∧ fN b ≠ 0 ∧ kindN b = 3) ∨ (0 < eN b ∧ eN b < 2047 ∧ kindN b = 4) := by
  have h1 : eN b < 2048 := Nat.mod_lt _ (by decide)
  unfold kindN
  by_cases h2 : eN b = 2047 <;> by_cases h3 : fN b = 0 <;> by_cases h4 : eN b = 0 <;> simp [h2, h3, h4] <;> omega
theorem eN_lt (b : Nat) : eN b < 2048 := Nat.mod_lt _ (by decide)
theorem fN_lt (b : Nat) : fN b < 4503599627370496 := Nat.mod_lt _ (by decide)
theorem sig_lt (b : Nat) : sig b < 9007199254740992 := by
  have := fN_lt b
  unfold sig; split <;> omega
theorem word_eq (b : Nat) (hb : b < 18446744073709551616) : b = eN b * 4503599627370496 + fN b + signW (topB b) := by
  unfold eN fN topB signW
  by_cases h : 9223372036854775808 ≤ b
  · rw [if_pos (by simpa using h)]; omega
  · rw [if_neg (by simpa using h)]; omega
theorem top_add (c : Nat) (hc : c < 9223372036854775808) (neg : Bool) : eN (c + signW neg) = eN c ∧ fN (c + signW neg) = fN c ∧ topB (c + signW neg) = neg := by
  cases neg
  · simp [topB, signW]; omega
  · unfold eN fN topB signW
    simp
    omega

/-- By how many places an odd m may go up. -/
def upN (m : Nat) (e : Int) : Nat := min (53 - bl m) (e + 1074).toNat
/-- The word, without a sign, of m · 2^e, where m is odd and there is such a float. -/
def wordN (m : Nat) (e : Int) : Nat := (e - upN m e + 1074).toNat * 4503599627370496 + m * 2 ^ upN m e
/-- There is such a float, of an odd m. -/
def okN (m : Nat) (e : Int) : Bool := decide (bl m ≤ 53) && decide (-1074 ≤ e) && decide (e + bl m ≤ 1024)
def makeOk (m : Nat) (e : Int) : Bool := decide (m = 0) || okN (od m) (e + tz m)
def makeW (neg : Bool) (m : Nat) (e : Int) : Nat := if makeOk m e then (if m = 0 then 0 else wordN (od m) (e + tz m)) + signW neg else 0

theorem okN_iff (m : Nat) (e : Int) : okN m e = true ↔ (bl m ≤ 53 ∧ -1074 ≤ e ∧ e + bl m ≤ 1024) := by
  unfold okN; simp [and_assoc]

/-- What the word of m · 2^e is made of. -/
theorem word_parts (m : Nat) (e : Int) (h0 : m ≠ 0) (hm : m < 18446744073709551616) (h1 : bl m ≤ 53) (h2 : -1074 ≤ e) (h3 : e + bl m ≤ 1024) :
    wordN m e < 9218868437227405312 ∧ sig (wordN m e) = m * 2 ^ upN m e ∧ expo (wordN m e) = e - upN m e ∧ (eN (wordN m e) < 2047) ∧ m * 2 ^ upN m e < 9007199254740992 := by
  obtain ⟨g1, g2, g3, g4⟩ := bl_spec m h0 hm
  have u1 : upN m e ≤ 53 - bl m := Nat.min_le_left _ _
  have u2 : (upN m e : Int) ≤ e + 1074 := by
    have : upN m e ≤ (e + 1074).toNat := Nat.min_le_right _ _
    omega
  have hs : m * 2 ^ upN m e < 18446744073709551616 := by
    have a1 : m * 2 ^ upN m e < 2 ^ bl m * 2 ^ upN m e := Nat.mul_lt_mul_of_pos_right g1 (Nat.two_pow_pos _)
    rw [← Nat.pow_add] at a1
    have a2 : 2 ^ (bl m + upN m e) ≤ 2 ^ 53 := Nat.pow_le_pow_right (by decide) (by omega)
    omega
  have hs3 := (bl_shift m (upN m e) 53 h0 hs).2 (by omega)
  have hs2 : m * 2 ^ upN m e < 2 ^ 52 → e - upN m e + 1074 = 0 := by
    intro h
    have h5 := (bl_shift m (upN m e) 52 h0 hs).1 h
    have h6 : upN m e = (e + 1074).toNat := by
      unfold upN at h5 ⊢
      omega
    omega
  generalize hS : m * 2 ^ upN m e = s at *
  generalize hX : (e - upN m e + 1074).toNat = x at *
  have hx : (x : Int) = e - upN m e + 1074 := by omega
  have hw : wordN m e = x * 4503599627370496 + s := by unfold wordN; rw [hS, hX]
  have hs0 : s ≠ 0 := by
    rw [← hS]; exact Nat.mul_ne_zero h0 (by have := Nat.two_pow_pos (upN m e); omega)
  have hxu : x ≤ 2045 := by
    by_cases hlt : s < 2 ^ 52
    · have := hs2 hlt; omega
    · have h7 : ¬ bl m + upN m e ≤ 52 := fun hc => hlt (by have := (bl_shift m (upN m e) 52 h0 (by rw [hS]; exact hs)).2 hc; rw [hS] at this; exact this)
      omega
  rw [hw]
  by_cases hlt : s < 2 ^ 52
  · have hz : x = 0 := by have := hs2 hlt; omega
    subst hz
    have hE : eN (0 * 4503599627370496 + s) = 0 := by unfold eN; omega
    have hF : fN (0 * 4503599627370496 + s) = s := by unfold fN; omega
    refine ⟨by omega, ?_, ?_, by omega, by omega⟩
    · unfold sig; rw [if_pos hE, hF]
    · unfold expo; rw [if_pos hE]; omega
  · have hE : eN (x * 4503599627370496 + s) = x + 1 := by unfold eN; omega
    have hF : fN (x * 4503599627370496 + s) = s - 4503599627370496 := by unfold fN; omega
    refine ⟨by omega, ?_, ?_, by omega, by omega⟩
    · unfold sig; rw [if_neg (by omega), hF]; omega
    · unfold expo; rw [if_neg (by omega), hE]; omega
/-- A float's parts lead to its word again. -/
theorem word_back (b : Nat) (hk : 3 ≤ kindN b) :
    okN (od (sig b)) (expo b + tz (sig b)) = true ∧ wordN (od (sig b)) (expo b + tz (sig b)) = eN b * 4503599627370496 + fN b := by
  have hs := sig_lt b
  have hF := fN_lt b
  have hs0 : sig b ≠ 0 := by
    unfold sig
    rcases kind_cases b with ⟨h1, h2, h3⟩ | ⟨h1, h2, h3⟩ | ⟨h1, h2, h3⟩ | ⟨h1, h2, h3⟩ | ⟨h1, h2, h3⟩ <;> split <;> omega
  have hE : eN b < 2047 := by
    rcases kind_cases b with ⟨h1, h2, h3⟩ | ⟨h1, h2, h3⟩ | ⟨h1, h2, h3⟩ | ⟨h1, h2, h3⟩ | ⟨h1, h2, h3⟩ <;> omega
  obtain ⟨d1, d2, d3⟩ := od_spec (sig b) hs0 (by omega)
  have hm0 : od (sig b) ≠ 0 := by omega
  have hml := od_lt (sig b)
  obtain ⟨g1, g2, g3, g4⟩ := bl_spec (od (sig b)) hm0 (by omega)
  have k1 := (bl_shift (od (sig b)) (tz (sig b)) 53 hm0 (by rw [← d1]; omega)).1 (by rw [← d1]; omega)
  have k2 : eN b ≠ 0 → ¬ bl (od (sig b)) + tz (sig b) ≤ 52 := by
    intro h hc
    have := (bl_shift (od (sig b)) (tz (sig b)) 52 hm0 (by rw [← d1]; omega)).2 hc
    rw [← d1] at this
    unfold sig at this
    rw [if_neg h] at this
    omega
  have hex : expo b = (if eN b = 0 then 1 else (eN b : Int)) - 1075 := rfl
  have hup : upN (od (sig b)) (expo b + tz (sig b)) = tz (sig b) := by
    unfold upN
    by_cases h : eN b = 0
    · rw [if_pos h] at hex; omega
    · rw [if_neg h] at hex
      have := k2 h
      omega
  constructor
  · rw [okN_iff]
    refine ⟨by omega, ?_, ?_⟩ <;> by_cases h : eN b = 0 <;> simp only [h, if_true, if_false] at hex <;> omega
  · unfold wordN
    rw [hup, ← d1]
    unfold sig
    by_cases h : eN b = 0
    · simp only [h, if_true] at hex ⊢; omega
    · simp only [h, if_false] at hex ⊢; omega
theorem kind_of_lt (b : Nat) (h : eN b < 2047) : kindN b ≠ 0 ∧ 2 ≤ kindN b := by
  rcases kind_cases b with ⟨h1, h2, h3⟩ | ⟨h1, h2, h3⟩ | ⟨h1, h2, h3⟩ | ⟨h1, h2, h3⟩ | ⟨h1, h2, h3⟩ <;> omega
theorem and_e (b : Nat) (hb : (b : Int) ≤ 18446744073709551615) : bits .and .u64 ((b : Int) / 4503599627370496) 2047 = (eN b : Int) := by
  have := bits_and_u64_nat (b / 4503599627370496) 2047 (by omega) (by omega)
  rw [show ((b / 4503599627370496 : Nat) : Int) = (b : Int) / 4503599627370496 from by omega, show (2047 : Nat) = 2 ^ 11 - 1 from rfl, Nat.and_two_pow_sub_one_eq_mod] at this
  exact this
theorem and_f (b : Nat) (hb : (b : Int) ≤ 18446744073709551615) : bits .and .u64 (b : Int) 4503599627370495 = (fN b : Int) := by
  have := bits_and_u64_nat b 4503599627370495 (by omega) (by omega)
  rw [show (4503599627370495 : Nat) = 2 ^ 52 - 1 from rfl, Nat.and_two_pow_sub_one_eq_mod] at this
  exact this
theorem and_s (b : Nat) (hb : (b : Int) ≤ 18446744073709551615) : (bits .and .u64 (b : Int) 9223372036854775808 != 0) = topB b := by
  have := bits_and_u64_nat b 9223372036854775808 (by omega) (by omega)
  rw [nat_bit63] at this
  rw [show (9223372036854775808 : Int) = ((9223372036854775808 : Nat) : Int) from rfl, this]
  unfold topB
  by_cases h : 9223372036854775808 ≤ b
  · rw [decide_eq_true h, show b / 9223372036854775808 % 2 = 1 by omega]; rfl
  · rw [decide_eq_false h, show b / 9223372036854775808 % 2 = 0 by omega]; rfl
theorem nat_or63 (b : Nat) (h : b < 9223372036854775808) : b ||| 9223372036854775808 = b + 9223372036854775808 := by
  have : 9223372036854775808 + b = 9223372036854775808 ||| b := Nat.two_pow_add_eq_or_of_lt (i := 63) (b := b) h 1
  rw [Nat.or_comm, ← this]
  omega
theorem or_s (b : Nat) (hb : b < 9223372036854775808) : bits .or .u64 (b : Int) 9223372036854775808 = (b : Int) + 9223372036854775808 := by
  have := bits_or_u64_nat b 9223372036854775808 (by omega) (by omega)
  rw [nat_or63 b hb] at this
  rw [show (9223372036854775808 : Int) = ((9223372036854775808 : Nat) : Int) from rfl, this]
  omega
theorem or_h (f : Nat) (hf : f < 4503599627370496) : bits .or .u64 4503599627370496 (f : Int) = (f : Int) + 4503599627370496 := by
  have := bits_or_u64_nat 4503599627370496 f (by omega) (by omega)
  have e : 4503599627370496 + f = 4503599627370496 ||| f := Nat.two_pow_add_eq_or_of_lt (i := 52) (b := f) hf 1
  rw [← e] at this
  rw [show (4503599627370496 : Int) = ((4503599627370496 : Nat) : Int) from rfl, this]
  omega
theorem pack_val (m : Nat) (e : Int) (h0 : m ≠ 0) (hm : m < 18446744073709551616) (h1 : bl m ≤ 53) (h2 : -1074 ≤ e) (h3 : e + bl m ≤ 1024) :
    IntKind.u64.wrap ((e - min (53 - (bl m : Int)) (e + 1074) + 1074) * 4503599627370496 + IntKind.u64.wrap ((m : Int) * 2 ^ (min (53 - (bl m : Int)) (e + 1074)).toNat)) = (wordN m e : Int) := by
  obtain ⟨p1, p2, p3, p4, p5⟩ := word_parts m e h0 hm h1 h2 h3
  have hu : min (53 - (bl m : Int)) (e + 1074) = (upN m e : Int) := by unfold upN; omega
  have hu2 : (upN m e : Int) ≤ e + 1074 := by omega
  rw [hu, Int.toNat_natCast, show (m : Int) * 2 ^ upN m e = ((m * 2 ^ upN m e : Nat) : Int) by simp]
  unfold wordN at p1 ⊢
  generalize m * 2 ^ upN m e = s at *
  rw [IntKind.wrap_u64, IntKind.wrap_u64]
  omega
theorem okN_no (m : Nat) (e : Int) (h : ¬ (bl m ≤ 53 ∧ -1074 ≤ e ∧ e + bl m ≤ 1024)) : okN m e = false := by
  rw [← okN_iff] at h; simpa using h
theorem make_no (neg : Bool) (m : Nat) (e : Int) (h0 : m ≠ 0) (h : okN (od m) (e + tz m) = false) : makeW neg m e = 0 ∧ makeOk m e = false := by
  have : makeOk m e = false := by unfold makeOk; simp [h0, h]
  exact ⟨by unfold makeW; simp [this], this⟩
theorem make_yes (neg : Bool) (m : Nat) (e : Int) (h0 : m ≠ 0) (h : okN (od m) (e + tz m) = true) : makeW neg m e = wordN (od m) (e + tz m) + signW neg ∧ makeOk m e = true := by
  have : makeOk m e = true := by unfold makeOk; simp [h]
  exact ⟨by unfold makeW; simp [this, h0], this⟩
theorem make_nought (neg : Bool) (e : Int) : makeW neg 0 e = signW neg ∧ makeOk 0 e = true := by
  have : makeOk 0 e = true := by unfold makeOk; simp
  exact ⟨by unfold makeW; rw [if_pos this, if_pos rfl, Nat.zero_add], this⟩
theorem part_none (b : Nat) (h : kindN b < 2) : partM b = 0 ∧ partE b = 0 ∧ partOk b = false := by
  unfold partM partE partOk
  rw [if_neg (by omega), if_neg (by omega)]
  simp; omega
theorem part_nought (b : Nat) (h : kindN b = 2) : partM b = 0 ∧ partE b = 0 ∧ partOk b = true := by
  unfold partM partE partOk
  rw [if_neg (by omega), if_neg (by omega), h]
  simp
theorem part_small (b : Nat) (h : kindN b = 3) (h1 : eN b = 0) : partM b = od (fN b) ∧ partE b = -1074 + tz (fN b) ∧ partOk b = true := by
  have hs : sig b = fN b := if_pos h1
  unfold partM partE partOk expo
  rw [if_pos (by omega), if_pos (by omega), if_pos h1, h, hs]
  simp
theorem part_normal (b : Nat) (h : kindN b = 4) (h1 : 0 < eN b) : partM b = od (sig b) ∧ partE b = -1074 + (eN b : Int) - 1 + tz (sig b) ∧ partOk b = true ∧ bits .or .u64 4503599627370496 (fN b : Int) = (sig b : Int) := by
  have hs : sig b = fN b + 4503599627370496 := if_neg (by omega)
  refine ⟨?_, ?_, ?_, ?_⟩
  · unfold partM; rw [if_pos (by omega)]
  · unfold partE expo; rw [if_pos (by omega), if_neg (by omega)]; omega
  · unfold partOk; rw [h]; rfl
  · rw [or_h _ (fN_lt b), hs]; omega
/-- What stays as it is while twos are moved over from n to k. -/
def TwoRel (x : Nat) (e : Int) (n : Nat) (k : Int) : Prop := n ≠ 0 ∧ n < 18446744073709551616 ∧ od n = od x ∧ k + tz n = e + tz x ∧ e ≤ k ∧ k ≤ e + 63
theorem TwoRel.start {x : Nat} (e : Int) (h0 : x ≠ 0) (hx : x < 18446744073709551616) : TwoRel x e x e := ⟨h0, hx, rfl, rfl, by omega, by omega⟩
theorem TwoRel.step {x : Nat} {e : Int} {n : Nat} {k : Int} (h0 : x ≠ 0) (hx : x < 18446744073709551616) (h : TwoRel x e n k) (hn : n % 2 = 0) : TwoRel x e (n / 2) (k + 1) := by
  obtain ⟨h1, h2, h3, h4, h5, h6⟩ := h
  obtain ⟨o1, o2⟩ := od_even n h2 h1 hn
  obtain ⟨_, _, d3⟩ := od_spec x h0 hx
  exact ⟨by omega, by omega, by rw [o1, h3], by omega, by omega, by omega⟩
theorem TwoRel.done {x : Nat} {e : Int} {n : Nat} {k : Int} (h : TwoRel x e n k) (hn : n % 2 = 1) : n = od x ∧ k = e + tz x := by
  obtain ⟨h1, h2, h3, h4, h5, h6⟩ := h
  obtain ⟨o1, o2⟩ := od_odd n h2 hn
  exact ⟨by rw [← h3, o1], by omega⟩
/-- What stays as it is while an odd m goes up. -/
def UpRel (m : Nat) (e : Int) (n : Nat) (k : Int) : Prop := ∃ j : Nat, j ≤ upN m e ∧ n = m * 2 ^ j ∧ k = e - j
theorem UpRel.start (m : Nat) (e : Int) : UpRel m e m e := ⟨0, Nat.zero_le _, by simp, by omega⟩
theorem up_fits {m : Nat} {e : Int} (hm0 : m ≠ 0) (hm : m < 18446744073709551616) (h1 : bl m ≤ 53) {j : Nat} (hj : j ≤ upN m e) : m * 2 ^ j < 9007199254740992 := by
  obtain ⟨g1, g2, g3, g4⟩ := bl_spec m hm0 hm
  have hu : upN m e ≤ 53 - bl m := Nat.min_le_left _ _
  have a1 : m * 2 ^ j < 2 ^ bl m * 2 ^ j := Nat.mul_lt_mul_of_pos_right g1 (Nat.two_pow_pos _)
  rw [← Nat.pow_add] at a1
  have a2 : 2 ^ (bl m + j) ≤ 2 ^ 53 := Nat.pow_le_pow_right (by decide) (by omega)
  omega
/-- Either both tests hold and it goes on, or one of them does not and it is at its end. -/
theorem UpRel.cases {m : Nat} {e : Int} {n : Nat} {k : Int} (hm0 : m ≠ 0) (hm : m < 18446744073709551616) (h1 : bl m ≤ 53) (h2 : -1074 ≤ e) (h : UpRel m e n k) :
    (n < 9007199254740992 ∧ -1074 ≤ k ∧ k ≤ e) ∧ ((n < 4503599627370496 ∧ -1074 < k ∧ UpRel m e (n * 2) (k - 1)) ∨ (¬ n < 4503599627370496 ∧ n = m * 2 ^ upN m e ∧ k = e - upN m e ∧ upN m e = 53 - bl m) ∨ (n < 4503599627370496 ∧ k = -1074 ∧ n = m * 2 ^ upN m e ∧ k = e - upN m e)) := by
  obtain ⟨j, hj, hn, hk⟩ := h
  have hf := up_fits hm0 hm h1 hj
  have hu1 : upN m e = min (53 - bl m) (e + 1074).toNat := rfl
  refine ⟨⟨by omega, by omega, by omega⟩, ?_⟩
  have hs := bl_shift m j 52 hm0 (by omega)
  rw [← hn] at hs
  by_cases hlt : n < 4503599627370496
  · have := hs.1 (by omega)
    by_cases hk2 : -1074 < k
    · left
      exact ⟨hlt, hk2, j + 1, by omega, by rw [hn, Nat.pow_succ, Nat.mul_assoc], by omega⟩
    · right; right
      have hje : j = upN m e := by omega
      exact ⟨hlt, by omega, by rw [← hje]; exact hn, by rw [← hje]; exact hk⟩
  · right; left
    have h5 : ¬ bl m + j ≤ 52 := fun hc => hlt (by have := hs.2 hc; omega)
    have hje : j = upN m e := by omega
    exact ⟨hlt, by rw [← hje]; exact hn, by rw [← hje]; exact hk, by omega⟩
theorem word_of {m : Nat} {e : Int} {n : Nat} {k : Int} (hn : n = m * 2 ^ upN m e) (hk : k = e - upN m e) (h : -1074 ≤ k) : (wordN m e : Int) = (k + 1074) * 4503599627370496 + n := by
  unfold wordN
  rw [← hn, ← hk]
  omega
theorem sign_false : signW false = 0 := rfl
theorem sign_true : signW true = 9223372036854775808 := rfl
theorem make_word (neg : Bool) (m : Nat) (e : Int) (hm : m < 18446744073709551616) :
    ∃ c : Nat, c < 9218868437227405312 ∧ eN c < 2047 ∧ (makeW neg m e = c + signW neg ∨ makeW neg m e = 0) := by
  by_cases h0 : m = 0
  · subst h0
    exact ⟨0, by decide, by decide, Or.inl (by rw [(make_nought neg e).1]; omega)⟩
  · obtain ⟨d1, d2, d3⟩ := od_spec m h0 hm
    have hml := od_lt m
    cases h : okN (od m) (e + tz m)
    · exact ⟨0, by decide, by decide, Or.inr (make_no neg m e h0 h).1⟩
    · obtain ⟨k1, k2, k3⟩ := (okN_iff _ _).1 h
      obtain ⟨p1, p2, p3, p4, p5⟩ := word_parts (od m) (e + tz m) (by omega) (by omega) k1 k2 k3
      exact ⟨_, p1, p4, Or.inl (make_yes neg m e h0 h).1⟩
theorem make_lt (neg : Bool) (m : Nat) (e : Int) (hm : m < 18446744073709551616) : makeW neg m e < 18446744073709551616 ∧ bitsN (makeW neg m e) = makeW neg m e := by
  obtain ⟨c, h1, h2, h3⟩ := make_word neg m e hm
  rcases h3 with h3 | h3
  · have hs : signW neg ≤ 9223372036854775808 := by cases neg <;> decide
    obtain ⟨t1, t2, t3⟩ := top_add c (by omega) neg
    rw [h3]
    refine ⟨by omega, if_neg (kind_of_lt _ ?_).1⟩
    rw [t1]; exact h2
  · rw [h3]
    exact ⟨by decide, by decide +kernel⟩
theorem part_bounds (b : Nat) : partM b < 9007199254740992 ∧ -1200 ≤ partE b ∧ partE b ≤ 1100 := by
  have hs := sig_lt b
  have he := eN_lt b
  unfold partM partE
  by_cases h : 3 ≤ kindN b
  · rw [if_pos h, if_pos h]
    have h1 := od_lt (sig b)
    have hs0 : sig b ≠ 0 := by
      unfold sig
      rcases kind_cases b with ⟨h1, h2, h3⟩ | ⟨h1, h2, h3⟩ | ⟨h1, h2, h3⟩ | ⟨h1, h2, h3⟩ | ⟨h1, h2, h3⟩ <;> split <;> omega
    have h2 := (od_spec (sig b) hs0 (by omega)).2.2
    have hE : eN b < 2047 := by
      rcases kind_cases b with ⟨h1, h2, h3⟩ | ⟨h1, h2, h3⟩ | ⟨h1, h2, h3⟩ | ⟨h1, h2, h3⟩ | ⟨h1, h2, h3⟩ <;> omega
    unfold expo
    refine ⟨by omega, ?_, ?_⟩
    · split <;> omega
    · split
      · omega
      · have hok := (okN_iff _ _).1 (word_back b h).1
        rename_i h0
        have hex : expo b = (eN b : Int) - 1075 := by unfold expo; rw [if_neg h0]
        rw [hex] at hok
        omega
  · rw [if_neg h, if_neg h]; omega
theorem back_word (b : Nat) (hb : b < 18446744073709551616) (h : partOk b = true) :
    makeOk (partM b) (partE b) = true ∧ bitsN (makeW (negB b) (partM b) (partE b)) = b := by
  have hk : 2 ≤ kindN b := by unfold partOk at h; simpa using h
  have hn : negB b = topB b := by unfold negB; rw [decide_eq_true (show kindN b ≠ 0 by omega), Bool.and_true]
  have hw := word_eq b hb
  have hbits : bitsN b = b := if_neg (by omega)
  by_cases h2 : kindN b = 2
  · have hE : eN b = 0 ∧ fN b = 0 := by
      rcases kind_cases b with ⟨h1, h2, h3⟩ | ⟨h1, h2, h3⟩ | ⟨h1, h2, h3⟩ | ⟨h1, h2, h3⟩ | ⟨h1, h2, h3⟩ <;> omega
    obtain ⟨q1, q2, q3⟩ := part_nought b h2
    rw [q1, q2, (make_nought _ _).1, hn]
    refine ⟨(make_nought false 0).2, ?_⟩
    rw [show signW (topB b) = b by omega]; exact hbits
  · have h3 : 3 ≤ kindN b := by omega
    obtain ⟨w1, w2⟩ := word_back b h3
    have hs := sig_lt b
    have hs0 : sig b ≠ 0 := by
      unfold sig
      rcases kind_cases b with ⟨h1, h2, h3⟩ | ⟨h1, h2, h3⟩ | ⟨h1, h2, h3⟩ | ⟨h1, h2, h3⟩ | ⟨h1, h2, h3⟩ <;> split <;> omega
    obtain ⟨d1, d2, d3⟩ := od_spec (sig b) hs0 (by omega)
    have hml := od_lt (sig b)
    obtain ⟨o1, o2⟩ := od_odd (od (sig b)) (by omega) d2
    have hM : partM b = od (sig b) := if_pos h3
    have hE : partE b = expo b + tz (sig b) := if_pos h3
    have hy := make_yes (negB b) (od (sig b)) (expo b + tz (sig b)) (by omega) (by rw [o1, o2]; simpa using w1)
    rw [hM, hE]
    refine ⟨hy.2, ?_⟩
    rw [hy.1, o1, o2, hn]
    have : wordN (od (sig b)) (expo b + tz (sig b) + ((0 : Nat) : Int)) = eN b * 4503599627370496 + fN b := by rw [← w2]; congr 1; omega
    rw [this, ← hw]; exact hbits
theorem kind_sig (c : Nat) (h : eN c < 2047) (hs : sig c ≠ 0) : 3 ≤ kindN c := by
  rcases kind_cases c with ⟨h1, h2, h3⟩ | ⟨h1, h2, h3⟩ | ⟨h1, h2, h3⟩ | ⟨h1, h2, h3⟩ | ⟨h1, h2, h3⟩
  · omega
  · omega
  · exact absurd ((show sig c = fN c from if_pos h1).trans h2) hs
  · omega
  · omega
theorem sig_back (c m k : Nat) (e : Int) (h : eN c < 2047) (h1 : sig c = m * 2 ^ k) (h2 : expo c = e - k) (h0 : m * 2 ^ k ≠ 0) (ho : od (m * 2 ^ k) = m) (ht : tz (m * 2 ^ k) = k) :
    partOk c = true ∧ partM c = m ∧ partE c = e := by
  have hk := kind_sig c h (by rw [h1]; exact h0)
  refine ⟨?_, ?_, ?_⟩
  · unfold partOk; rw [decide_eq_true_iff]; omega
  · unfold partM; rw [if_pos hk, h1, ho]
  · unfold partE; rw [if_pos hk, h1, ht, h2]; omega
theorem make_parts (m : Nat) (e : Int) (hm : m < 18446744073709551616) (h0 : m ≠ 0) (h : makeOk m e = true) :
    partOk (makeW false m e) = true ∧ partM (makeW false m e) = od m ∧ partE (makeW false m e) = e + tz m ∧ -1074 ≤ e + tz m ∧ e + tz m ≤ 1023 := by
  obtain ⟨d1, d2, d3⟩ := od_spec m h0 hm
  have hml := od_lt m
  have hok : okN (od m) (e + tz m) = true := by
    unfold makeOk at h
    rw [decide_eq_false h0, Bool.false_or] at h
    exact h
  obtain ⟨k1, k2, k3⟩ := (okN_iff _ _).1 hok
  obtain ⟨g1, g2, g3, g4⟩ := bl_spec (od m) (by omega) (by omega)
  have hy := (make_yes false m e h0 hok).1
  rw [sign_false, Nat.add_zero] at hy
  obtain ⟨p1, p2, p3, p4, p5⟩ := word_parts (od m) (e + tz m) (by omega) (by omega) k1 k2 k3
  have hp := Nat.two_pow_pos (upN (od m) (e + tz m))
  have hs0 : od m * 2 ^ upN (od m) (e + tz m) ≠ 0 := Nat.mul_ne_zero (by omega) (Nat.ne_of_gt hp)
  obtain ⟨o1, o2⟩ := od_odd (od m) (by omega) d2
  have hlt : od m * 2 ^ upN (od m) (e + tz m) < 18446744073709551616 := Nat.lt_trans p5 (by decide)
  obtain ⟨q1, q2⟩ := od_double (od m) (upN (od m) (e + tz m)) (by omega) hlt
  have hq1 : od (od m * 2 ^ upN (od m) (e + tz m)) = od m := q1.trans o1
  have hq2 : tz (od m * 2 ^ upN (od m) (e + tz m)) = upN (od m) (e + tz m) := by rw [q2, o2, Nat.zero_add]
  rw [← hy] at p2 p3 p4
  have := sig_back (makeW false m e) (od m) (upN (od m) (e + tz m)) (e + tz m) p4 p2 p3 hs0 hq1 hq2
  exact ⟨this.1, this.2.1, this.2.2, k2, by omega⟩
theorem tz_lt32 (m : Nat) (h0 : m ≠ 0) (hm : m < 4294967296) : tz m < 32 := by
  obtain ⟨d1, d2, d3⟩ := od_spec m h0 (by omega)
  refine Nat.lt_of_not_le fun hc => ?_
  have a1 : 2 ^ 32 ≤ 2 ^ tz m := Nat.pow_le_pow_right (by decide) hc
  have a2 : 2 ^ tz m ≤ od m * 2 ^ tz m := Nat.le_mul_of_pos_left _ (by omega)
  omega
theorem make_false (m : Nat) (e : Int) (h : makeOk m e = false) : makeW false m e = 0 := by
  unfold makeW; rw [h]; rfl
theorem part_zero : partM 0 = 0 ∧ partE 0 = 0 ∧ partOk 0 = true := by decide +kernel
end Go.Proofs.YtdbebebhldldmaaGreatDoor.FbitPure
