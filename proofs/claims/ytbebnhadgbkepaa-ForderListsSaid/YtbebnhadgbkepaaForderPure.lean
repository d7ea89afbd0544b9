/- The order of floats by their bits, in plain Lean: the key of a float, the float of a key. -/
import Derived.Test.YtbebnhadgbkepaaFbitPure
namespace Go.Proofs.Ytbebnhadgbkepaa.ForderPure
open FbitPure
/-- The program's key of the float with the bits b. -/
def pk (b : Nat) : Nat := if negB b then 18446744073709551615 - b else bitsN b + 9223372036854775808
/-- The bits of the float of a key. -/
def unk (k : Nat) : Nat := if k < 9223372036854775808 then 18446744073709551615 - k else k - 9223372036854775808
/-- The document's key. -/
def rk (b : Nat) : Nat := if kindN b = 0 then 18446744073709551615 else if topB b then 18446744073709551615 - b else 9223372036854775808 + b
theorem kind_zero (b : Nat) : kindN b = 0 ↔ eN b = 2047 ∧ fN b ≠ 0 := by
  rcases kind_cases b with ⟨h1, h2, h3⟩ | ⟨h1, h2, h3⟩ | ⟨h1, h2, h3⟩ | ⟨h1, h2, h3⟩ | ⟨h1, h2, h3⟩ <;> rw [h3] <;> simp <;> omega
theorem bits_nan {b : Nat} (h : kindN b = 0) : bitsN b = 9221120237041090560 := if_pos h
theorem bits_num {b : Nat} (h : kindN b ≠ 0) : bitsN b = b := if_neg h
theorem neg_nan {b : Nat} (h : kindN b = 0) : negB b = false := by unfold negB; simp [h]
theorem neg_num {b : Nat} (h : kindN b ≠ 0) : negB b = topB b := by unfold negB; simp [h]
/-- Of those that are numbers, and have no sign, none is above infinity. -/
theorem low_num {b : Nat} (h : kindN b ≠ 0) (ht : topB b = false) : b ≤ 9218868437227405312 := by
  rw [Ne, kind_zero] at h
  unfold topB at ht
  unfold eN fN at h
  simp at ht
  omega
theorem top_iff (b : Nat) : topB b = true ↔ 9223372036854775808 ≤ b := by unfold topB; simp
theorem pk_nan {b : Nat} (h : kindN b = 0) : pk b = 18444492273895866368 := by unfold pk; rw [neg_nan h, bits_nan h]; rfl
theorem pk_neg {b : Nat} (h : kindN b ≠ 0) (ht : topB b = true) : pk b = 18446744073709551615 - b := by unfold pk; rw [neg_num h, ht]; rfl
theorem pk_pos {b : Nat} (h : kindN b ≠ 0) (ht : topB b = false) : pk b = b + 9223372036854775808 := by unfold pk; rw [neg_num h, ht, bits_num h]; rfl
theorem rk_nan {b : Nat} (h : kindN b = 0) : rk b = 18446744073709551615 := if_pos h
theorem rk_neg {b : Nat} (h : kindN b ≠ 0) (ht : topB b = true) : rk b = 18446744073709551615 - b := by unfold rk; rw [if_neg h, ht]; rfl
theorem rk_pos {b : Nat} (h : kindN b ≠ 0) (ht : topB b = false) : rk b = 9223372036854775808 + b := by unfold rk; rw [if_neg h, ht]; rfl
/-- The three kinds of keys. -/
theorem cases3 (b : Nat) (hb : b ≤ 18446744073709551615) :
    (kindN b = 0 ∧ pk b = 18444492273895866368 ∧ rk b = 18446744073709551615) ∨
    (kindN b ≠ 0 ∧ topB b = true ∧ 9223372036854775808 ≤ b ∧ pk b = 18446744073709551615 - b ∧ rk b = 18446744073709551615 - b) ∨
    (kindN b ≠ 0 ∧ topB b = false ∧ b ≤ 9218868437227405312 ∧ pk b = b + 9223372036854775808 ∧ rk b = b + 9223372036854775808) := by
  by_cases h : kindN b = 0
  · exact Or.inl ⟨h, pk_nan h, rk_nan h⟩
  · cases ht : topB b
    · exact Or.inr (Or.inr ⟨h, rfl, low_num h ht, pk_pos h ht, by rw [rk_pos h ht]; omega⟩)
    · exact Or.inr (Or.inl ⟨h, rfl, (top_iff b).1 ht, pk_neg h ht, rk_neg h ht⟩)
theorem pk_le {b : Nat} (hb : b ≤ 18446744073709551615) : pk b ≤ 18446744073709551615 := by
  rcases cases3 b hb with ⟨_, h, _⟩ | ⟨_, _, _, h, _⟩ | ⟨_, _, _, h, _⟩ <;> omega
theorem rk_le {b : Nat} (hb : b ≤ 18446744073709551615) : rk b ≤ 18446744073709551615 := by
  rcases cases3 b hb with ⟨_, _, h⟩ | ⟨_, _, _, _, h⟩ | ⟨_, _, _, _, h⟩ <;> omega
theorem rk_lt {a b : Nat} (ha : a ≤ 18446744073709551615) (hb : b ≤ 18446744073709551615) : rk a < rk b ↔ pk a < pk b := by
  rcases cases3 a ha with ⟨_, h, h'⟩ | ⟨_, _, h0, h, h'⟩ | ⟨_, _, h0, h, h'⟩ <;> rcases cases3 b hb with ⟨_, g, g'⟩ | ⟨_, _, g0, g, g'⟩ | ⟨_, _, g0, g, g'⟩ <;> omega
theorem unk_pk {b : Nat} (hb : b ≤ 18446744073709551615) : unk (pk b) = bitsN b := by
  unfold unk
  rcases cases3 b hb with ⟨k, h, _⟩ | ⟨k, _, h0, h, _⟩ | ⟨k, _, h0, h, _⟩
  · rw [h, bits_nan k]; rfl
  · rw [h, bits_num k, if_pos (by omega)]; omega
  · rw [h, bits_num k, if_neg (by omega)]; omega
theorem bits_le {b : Nat} (hb : b ≤ 18446744073709551615) : bitsN b ≤ 18446744073709551615 := by
  by_cases h : kindN b = 0
  · rw [bits_nan h]; omega
  · rw [bits_num h]; exact hb
theorem kind_canon : kindN 9221120237041090560 = 0 := by decide +kernel
theorem bits_bits (b : Nat) : bitsN (bitsN b) = bitsN b := by
  by_cases h : kindN b = 0
  · rw [bits_nan h, bits_nan kind_canon]
  · rw [bits_num h, bits_num h]
theorem pk_bits (b : Nat) : pk (bitsN b) = pk b := by
  by_cases h : kindN b = 0
  · rw [bits_nan h, pk_nan kind_canon, pk_nan h]
  · rw [bits_num h]
/-- -1, 0 or 1, as a's key is below b's, the same, or above it. -/
def cmpN (x y : Nat) : Int := if x < y then -1 else if y < x then 1 else 0
theorem cmp_lt {x y : Nat} (h : x < y) : cmpN x y = -1 := if_pos h
theorem cmp_gt {x y : Nat} (h : y < x) : cmpN x y = 1 := by unfold cmpN; rw [if_neg (by omega), if_pos h]
theorem cmp_eq {x y : Nat} (h : x = y) : cmpN x y = 0 := by unfold cmpN; rw [if_neg (by omega), if_neg (by omega)]
theorem cmp_swap (x y : Nat) : cmpN y x = -cmpN x y := by
  unfold cmpN
  by_cases h : x < y
  · rw [if_neg (by omega), if_pos h, if_pos h]; rfl
  · by_cases h2 : y < x
    · rw [if_pos h2, if_neg h, if_pos h2]
    · rw [if_neg h2, if_neg h, if_neg h, if_neg h2]; rfl
theorem cmp_neg (x y : Nat) : (cmpN x y < 0) ↔ x < y := by
  unfold cmpN
  by_cases h : x < y
  · simp [h]
  · by_cases h2 : y < x <;> simp [h, h2]
/-- Whether x's key is below y's. -/
def ltB (x y : Nat) : Bool := decide (x < y)
/-- Whether x's key is above y's. -/
def gtB (x y : Nat) : Bool := decide (y < x)
end Go.Proofs.Ytbebnhadgbkepaa.ForderPure
