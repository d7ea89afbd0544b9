/- Sets of numbers as bits in bytes, and back (layer 45). No program in sight. -/
import Derived.Test.YtceejjgmepaonaaDoorPk8
namespace Go.Proofs.YtceejjgmepaonaaDoor.CdPure
open SdPure
/-- Two rising lists of the same numbers are one. -/
theorem rise_one : ∀ {a b : List Int}, a.Pairwise (· < ·) → b.Pairwise (· < ·) → (∀ v, v ∈ a ↔ v ∈ b) → a = b
  | [], [], _, _, _ => rfl
  | [], y :: b, _, _, h => by have := (h y).2 (by simp); simp at this
  | x :: a, [], _, _, h => by have := (h x).1 (by simp); simp at this
  | x :: a, y :: b, h1, h2, h => by
    rw [List.pairwise_cons] at h1 h2
    have e : x = y := by
      have m1 := (h x).1 (by simp)
      have m2 := (h y).2 (by simp)
      simp only [List.mem_cons] at m1 m2
      rcases m1 with m1 | m1
      · exact m1
      · rcases m2 with m2 | m2
        · exact m2.symm
        · have := h1.1 y m2; have := h2.1 x m1; omega
    subst e
    rw [rise_one h1.2 h2.2 (fun v => by
      constructor
      · intro hv
        have := (h v).1 (by simp [hv])
        simp only [List.mem_cons] at this
        rcases this with rfl | this
        · have := h1.1 v hv; omega
        · exact this
      · intro hv
        have := (h v).2 (by simp [hv])
        simp only [List.mem_cons] at this
        rcases this with rfl | this
        · have := h2.1 v hv; omega
        · exact this)]
/-- Those below k of which S tells, in order. -/
def gatS (S : Nat → Bool) : Nat → List Int
  | 0 => []
  | k + 1 => gatS S k ++ (if S k = true then [(k : Int)] else [])
theorem gat_mem (S : Nat → Bool) (v : Int) : ∀ k : Nat, v ∈ gatS S k ↔ ∃ j : Nat, j < k ∧ v = (j : Int) ∧ S j = true
  | 0 => by simp [gatS]
  | k + 1 => by
    unfold gatS
    rw [List.mem_append, gat_mem S v k]
    constructor
    · rintro (⟨j, h1, h2, h3⟩ | h)
      · exact ⟨j, by omega, h2, h3⟩
      · split at h
        · next hb => simp only [List.mem_singleton] at h; exact ⟨k, by omega, h, hb⟩
        · simp at h
    · rintro ⟨j, h1, h2, h3⟩
      by_cases hj : j = k
      · subst hj; right; rw [if_pos h3]; simp [h2]
      · left; exact ⟨j, by omega, h2, h3⟩
theorem gat_rises (S : Nat → Bool) : ∀ k : Nat, (gatS S k).Pairwise (· < ·)
  | 0 => List.Pairwise.nil
  | k + 1 => by
    unfold gatS
    rw [List.pairwise_append]
    refine ⟨gat_rises S k, by split <;> simp, fun a ha b hb => ?_⟩
    obtain ⟨j, h1, h2, -⟩ := (gat_mem S a k).1 ha
    split at hb
    · simp only [List.mem_singleton] at hb; omega
    · simp at hb
theorem gat_len (S : Nat → Bool) : ∀ k : Nat, (gatS S k).length ≤ k
  | 0 => Nat.le_refl _
  | k + 1 => by
    have := gat_len S k
    unfold gatS
    rw [List.length_append]
    split <;> simp <;> omega
theorem gat_back {n k : Nat} {l : List Int} (h : RightS (n : Int) l) (hk : n ≤ k) {S : Nat → Bool} (hS : ∀ j, j < k → S j = inS l (j : Int)) : gatS S k = l := by
  refine rise_one (gat_rises S k) h.2 fun v => ?_
  rw [gat_mem]
  constructor
  · rintro ⟨j, h1, rfl, h3⟩
    rw [hS j h1] at h3
    exact inS_iff.1 h3
  · intro hv
    have hr := h.1 v hv
    refine ⟨v.toNat, by omega, by omega, ?_⟩
    rw [hS _ (by omega), show ((v.toNat : Nat) : Int) = v by omega]
    exact inS_iff.2 hv
/-- Of bits that are gathered all are below n, if none behind n is set. -/
theorem gat_right {n k : Nat} {S : Nat → Bool} : RightS (n : Int) (gatS S k) ↔ ∀ j, n ≤ j → j < k → S j = false := by
  constructor
  · intro h j h1 h2
    cases e : S j with
    | false => rfl
    | true => have := h.1 (j : Int) ((gat_mem S _ k).2 ⟨j, h2, rfl, e⟩); omega
  · intro h
    refine ⟨fun v hv => ?_, gat_rises S k⟩
    obtain ⟨j, h1, rfl, h3⟩ := (gat_mem S v k).1 hv
    refine ⟨by omega, ?_⟩
    apply Classical.byContradiction
    intro hc
    rw [h j (by omega) h1] at h3
    cases h3
/-- The byte of a place: bits 0 to i of it. -/
def byteV (l : List Int) (p : Nat) : Nat → Nat
  | 0 => 0
  | i + 1 => byteV l p i + (if inS l ((8 * p + i : Nat) : Int) = true then 2 ^ i else 0)
theorem byte_lt (l : List Int) (p : Nat) : ∀ i : Nat, byteV l p i < 2 ^ i
  | 0 => by simp [byteV]
  | i + 1 => by
    have := byte_lt l p i
    unfold byteV
    rw [Nat.pow_succ]
    split <;> omega
theorem byte_bit (l : List Int) (p : Nat) : ∀ (i j : Nat), j < i → (byteV l p i).testBit j = inS l ((8 * p + j : Nat) : Int)
  | 0, j, h => by omega
  | i + 1, j, h => by
    have hlt := byte_lt l p i
    unfold byteV
    by_cases hj : j = i
    · subst hj
      cases e : inS l ((8 * p + j : Nat) : Int) with
      | true => rw [if_pos rfl, Nat.add_comm, Nat.testBit_two_pow_add_eq, Nat.testBit_lt_two_pow hlt]; rfl
      | false => rw [if_neg (by decide), Nat.add_zero, Nat.testBit_lt_two_pow hlt]
    · have ih := byte_bit l p i j (by omega)
      split
      · rw [Nat.add_comm, Nat.testBit_two_pow_add_gt (by omega), ih]
      · rw [Nat.add_zero, ih]
theorem byte_empty (p : Nat) : ∀ i : Nat, byteV [] p i = 0
  | 0 => rfl
  | i + 1 => by unfold byteV; rw [byte_empty p i]; rfl
/-- One more number, that is none of them. -/
theorem byte_snoc {l : List Int} {v : Nat} (hv : inS l (v : Int) = false) (p : Nat) : ∀ i : Nat, byteV (l ++ [(v : Int)]) p i = byteV l p i + (if 8 * p ≤ v ∧ v < 8 * p + i then 2 ^ (v - 8 * p) else 0)
  | 0 => by simp [byteV]; intro h1 h2; omega
  | i + 1 => by
    have ih := byte_snoc hv p i
    have hs : inS (l ++ [(v : Int)]) ((8 * p + i : Nat) : Int) = (inS l ((8 * p + i : Nat) : Int) || decide (((8 * p + i : Nat) : Int) = (v : Int))) := by unfold inS; simp
    unfold byteV
    rw [ih, hs]
    by_cases hc : 8 * p + i = v
    · subst hc
      rw [hv]
      simp
    · have d : decide (((8 * p + i : Nat) : Int) = (v : Int)) = false := decide_eq_false (by omega)
      rw [d, Bool.or_false]
      by_cases h1 : 8 * p ≤ v ∧ v < 8 * p + i
      · rw [if_pos h1, if_pos (by omega : 8 * p ≤ v ∧ v < 8 * p + (i + 1))]; omega
      · rw [if_neg h1, if_neg (by omega : ¬ (8 * p ≤ v ∧ v < 8 * p + (i + 1)))]; omega
/-- All eight bits: one more number's byte. -/
theorem byte_step {l : List Int} {v : Nat} (hv : inS l (v : Int) = false) (p : Nat) : byteV (l ++ [(v : Int)]) p 8 = byteV l p 8 + (if v / 8 = p then 2 ^ (v % 8) else 0) := by
  rw [byte_snoc hv p 8]
  by_cases h : v / 8 = p
  · rw [if_pos h, if_pos (by omega), show v - 8 * p = v % 8 by omega]
  · rw [if_neg h, if_neg (by omega)]
/-- A set's bytes. -/
def setB (n : Nat) (l : List Int) : List Int := (List.range ((n + 7) / 8)).map (fun p => ((byteV l p 8 : Nat) : Int))
theorem set_len (n : Nat) (l : List Int) : (setB n l).length = (n + 7) / 8 := by unfold setB; simp
theorem set_at (n : Nat) (l : List Int) {p : Nat} (h : p < (n + 7) / 8) : (setB n l)[p]? = some ((byteV l p 8 : Nat) : Int) := by
  unfold setB
  rw [List.getElem?_map, List.getElem?_range h]
  rfl
/-- Read as they were. -/
theorem set_back {n : Nat} {l : List Int} (h : RightS (n : Int) l) : gatS (fun v => (byteV l (v / 8) 8).testBit (v % 8)) (8 * ((n + 7) / 8)) = l := by
  refine gat_back h (by omega) fun j hj => ?_
  rw [byte_bit l (j / 8) 8 (j % 8) (by omega)]
  congr 2
  omega
end Go.Proofs.YtceejjgmepaonaaDoor.CdPure
