/- Plain facts on numbers told as floats and back. No program in sight. -/
import Derived.Test.YtmagdmjccljkiaaDoorFintPure
namespace Go.Proofs.YtmagdmjccljkiaaDoor.FintPure
open Go.RowKit FbitPure
theorem top_parts (c : Nat) (hc : c < 9223372036854775808) (neg : Bool) : kindN (c + signW neg) = kindN c ∧ partM (c + signW neg) = partM c ∧ partE (c + signW neg) = partE c ∧ topB (c + signW neg) = neg := by
  obtain ⟨h1, h2, h3⟩ := top_add c hc neg
  have hk : kindN (c + signW neg) = kindN c := by unfold kindN; rw [h1, h2]
  have hs : sig (c + signW neg) = sig c := by unfold sig; rw [h1, h2]
  have he : expo (c + signW neg) = expo c := by unfold expo; rw [h1]
  exact ⟨hk, by unfold partM; rw [hk, hs], by unfold partE; rw [hk, hs, he], h3⟩
/-- A whole number of twos more: the same float. -/
theorem make_shift (neg : Bool) (m k : Nat) (hm : m % 2 = 1) (h : m * 2 ^ k < 18446744073709551616) : makeW neg (m * 2 ^ k) 0 = makeW neg m k ∧ makeOk (m * 2 ^ k) 0 = makeOk m k := by
  have hp : 0 < 2 ^ k := Nat.pow_pos (by decide)
  have hm2 : m ≤ m * 2 ^ k := Nat.le_mul_of_pos_right m hp
  obtain ⟨o1, o2⟩ := od_uniq (m * 2 ^ k) m k h hm rfl
  obtain ⟨o3, o4⟩ := od_odd m (by omega) hm
  have z1 : m * 2 ^ k ≠ 0 := by omega
  have z2 : m ≠ 0 := by omega
  have e : makeOk (m * 2 ^ k) 0 = makeOk m k := by
    unfold makeOk
    rw [o1, o2, o3, o4, decide_eq_false z1, decide_eq_false z2]
    simp
  refine ⟨?_, e⟩
  unfold makeW
  rw [e, o1, o2, o3, o4, if_neg z1, if_neg z2]
  simp
/-- The float of the number that a whole float is. -/
theorem back_float (b : Nat) (hb : b < 18446744073709551616) (h : intE b = 0) : makeOk (intN b).natAbs 0 = true ∧ (bitsN (makeW (decide (intN b < 0)) (intN b).natAbs 0) = b ∨ (b = 9223372036854775808 ∧ intN b = 0)) := by
  have hw : wholeE b = 0 := by
    unfold intE at h
    by_cases hw : wholeE b ≠ 0
    · rw [if_pos hw] at h; exact h
    · omega
  have hn : intN b = valI b := if_pos h
  have hr := val_int h
  have k1 : 2 ≤ kindN b ∧ 0 ≤ partE b := by rcases whole_cases b with h1 | h1 | h1 | h1 <;> omega
  by_cases h2 : kindN b = 2
  · have hM : partM b = 0 := if_neg (by omega)
    have hv : intN b = 0 := by rw [hn]; unfold valI magN; rw [hM]; simp
    have hE : eN b = 0 ∧ fN b = 0 := by
      rcases kind_cases b with ⟨h1, h2, h3⟩ | ⟨h1, h2, h3⟩ | ⟨h1, h2, h3⟩ | ⟨h1, h2, h3⟩ | ⟨h1, h2, h3⟩ <;> omega
    have hwd := word_eq b hb
    rw [hE.1, hE.2] at hwd
    rw [hv]
    refine ⟨by decide, ?_⟩
    cases ht : topB b
    · rw [ht] at hwd
      left
      have : b = 0 := by simpa [signW] using hwd
      rw [this]
      decide +kernel
    · rw [ht] at hwd
      right
      exact ⟨by simpa [signW] using hwd, rfl⟩
  · have h3 : 3 ≤ kindN b := by omega
    have hS : sig b ≠ 0 := by
      unfold sig
      rcases kind_cases b with ⟨h1, h2, h3⟩ | ⟨h1, h2, h3⟩ | ⟨h1, h2, h3⟩ | ⟨h1, h2, h3⟩ | ⟨h1, h2, h3⟩ <;> split <;> omega
    obtain ⟨d1, d2, d3⟩ := od_spec (sig b) hS (by have := sig_lt b; omega)
    have hM : partM b = od (sig b) := if_pos h3
    have hodd : partM b % 2 = 1 := by rw [hM]; exact d2
    have hmag : valI b = if topB b then -(magN b : Int) else magN b := rfl
    have hm0 : 0 < magN b := Nat.mul_pos (by omega) (Nat.pow_pos (by decide))
    have hmb : magN b < 18446744073709551616 := by
      cases ht : topB b <;> rw [ht] at hmag <;> simp at hmag <;> omega
    have hab : (intN b).natAbs = magN b := by
      rw [hn]
      cases ht : topB b <;> rw [ht] at hmag <;> simp at hmag <;> omega
    have hsg : decide (intN b < 0) = negB b := by
      rw [neg_top b k1.1, hn]
      cases ht : topB b <;> rw [ht] at hmag <;> simp at hmag <;> rw [hmag] <;> simp <;> omega
    obtain ⟨s1, s2⟩ := make_shift (negB b) (partM b) (partE b).toNat hodd hmb
    have hpe : (((partE b).toNat : Nat) : Int) = partE b := by omega
    obtain ⟨q1, q2⟩ := back_word b hb (by unfold partOk; simp; omega)
    rw [hab, hsg]
    unfold magN
    rw [s1, s2, hpe]
    exact ⟨q1, Or.inl q2⟩
/-- The number of the float that a number has. -/
theorem back_int (n : Int) (h1 : -9223372036854775808 ≤ n) (h2 : n ≤ 9223372036854775807) (h : makeOk n.natAbs 0 = true) : intE (makeW (decide (n < 0)) n.natAbs 0) = 0 ∧ intN (makeW (decide (n < 0)) n.natAbs 0) = n := by
  by_cases h0 : n = 0
  · subst h0
    decide +kernel
  · have hk0 : n.natAbs ≠ 0 := by omega
    have hk1 : n.natAbs < 18446744073709551616 := by omega
    obtain ⟨p1, p2, p3, -, -⟩ := make_parts n.natAbs 0 hk1 hk0 h
    have hok : okN (od n.natAbs) (0 + tz n.natAbs) = true := by
      unfold makeOk at h
      rw [decide_eq_false hk0, Bool.false_or] at h
      exact h
    obtain ⟨d1, d2, d3⟩ := od_spec n.natAbs hk0 hk1
    have hc : makeW false n.natAbs 0 < 9223372036854775808 := by
      rw [(make_yes false n.natAbs 0 hk0 hok).1]
      obtain ⟨o1, o2, o3⟩ := (okN_iff _ _).1 hok
      have := (word_parts (od n.natAbs) (0 + tz n.natAbs) (by omega) (by have := od_lt n.natAbs; omega) o1 o2 o3).1
      have : signW false = 0 := rfl
      omega
    have hs : makeW (decide (n < 0)) n.natAbs 0 = makeW false n.natAbs 0 + signW (decide (n < 0)) := by
      rw [(make_yes _ n.natAbs 0 hk0 hok).1, (make_yes false n.natAbs 0 hk0 hok).1]
      have : signW false = 0 := rfl
      omega
    obtain ⟨t1, t2, t3, t4⟩ := top_parts _ hc (decide (n < 0))
    rw [← hs] at t1 t2 t3 t4
    generalize makeW (decide (n < 0)) n.natAbs 0 = c at *
    have hk2 : 2 ≤ kindN c := by rw [t1]; unfold partOk at p1; simpa using p1
    have hE : partE c = tz n.natAbs := by rw [t3, p3]; omega
    have hmag : magN c = n.natAbs := by
      unfold magN
      rw [t2, p2, hE, Int.toNat_natCast]
      exact d1.symm
    have hw : wholeE c = 0 := by rcases whole_cases c with q | q | q | q <;> omega
    have hv : valI c = n := by
      unfold valI
      rw [t4, hmag]
      by_cases hn : n < 0
      · rw [decide_eq_true hn]; simp; omega
      · rw [decide_eq_false hn]; simp; omega
    have hi : intE c = 0 := by unfold intE; rw [if_neg (by omega), if_neg (by omega)]
    exact ⟨hi, by rw [← hv]; exact if_pos hi⟩
theorem make_none (neg : Bool) (m : Nat) (e : Int) (h : makeOk m e = false) : makeW neg m e = 0 := by
  unfold makeW; rw [h]; rfl
/-- Up to 2^53 each number has a float. -/
theorem ok_small (k : Nat) (h : k ≤ 9007199254740992) : makeOk k 0 = true := by
  unfold makeOk
  by_cases h0 : k = 0
  · rw [decide_eq_true h0]; rfl
  · obtain ⟨d1, d2, d3⟩ := od_spec k h0 (by omega)
    have hl := od_lt k
    have hb : bl (od k) ≤ 53 := (bl_le (od k) 53 (by omega) (by omega)).2 (by omega)
    rw [(okN_iff _ _).2 ⟨hb, by omega, by omega⟩, Bool.or_true]
end Go.Proofs.YtmagdmjccljkiaaDoor.FintPure
