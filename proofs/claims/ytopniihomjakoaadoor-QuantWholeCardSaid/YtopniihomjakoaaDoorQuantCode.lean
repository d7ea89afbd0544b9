/- Contracts of package quant's plain functions: a float in parts, how many steps it is, a number's side and size. -/
import Derived.Test.YtopniihomjakoaaDoorFbitRef
import Derived.Test.YtopniihomjakoaaDoorQuantPure
import Derived.Deep.QuietTactic
import Derived.BigQuiet
namespace Go.Proofs.YtopniihomjakoaaDoor
open Go.RowKit Go.ChangeShapes FbitPure QuantPure
theorem ret_fin {a b : Bool} {c d m n x y : Int} (h1 : a = b) (h2 : c = d) (h3 : m = n) (h4 : x = y) : Ending.returned (.tuple #[.agg #[.bool a, .int .u64 c, .int .i64 m], .int .i64 x]) = .returned (.tuple #[.agg #[.bool b, .int .u64 d, .int .i64 n], .int .i64 y]) := by rw [h1, h2, h3, h4]
set_option maxHeartbeats 400000 in
theorem qparts_any (b : Nat) (hb : (b : Int) ≤ 18446744073709551615) (w : World) (hT : TabAt 1 Lib.deBruijn64tab w) :
    Calls Tryd.prog 44 #[.float .f64 b] w fun e w' => e = .returned (.tuple #[.agg #[.bool (fneg b), .int .u64 (partM b : Int), .int .i64 (partE b)], .int .i64 (noE b)]) ∧ Below w.heap.size w w' := by
  have hB0 := (Below.refl w.heap.size w).alloc (Nat.le_refl _) (.cells #[.bool false, .int .u64 0, .int .i64 0] 77)
  have HT := Lib.hid (tab_on hT (by decide) hB0)
  have HB := Lib.hid hB0
  clear hB0 hT
  rcases noE_cases b with ⟨h1, h2, h3, h4, h5⟩ | ⟨h1, h2, h3, h4, h5⟩ | ⟨h1, h2, h3⟩
  · have r := Lib.hid (And.intro (show fneg b = false by unfold fneg; rw [h3]; rfl) (And.intro h2 (And.intro h4 h5)))
    clear h2 h3 h4 h5
    go_enter Tryd.func44, Tryd.ntmps44
    go_wp2_with (first | (go_at_call 29; refine (kind_any _ hb _).mono ?_; rintro e w' ⟨rfl, rfl⟩))
    refine bodyPost_ret (v := .tuple #[.agg #[.bool false, .int .u64 0, .int .i64 0], .int .i64 11]) (by simp [results, Tryd.results44, go_sem]) rfl ⟨ret_fin r.out.1.symm (by rw [r.out.2.2.1]; rfl) r.out.2.2.2.symm r.out.2.1.symm, HB.out⟩
  · have r := Lib.hid (And.intro (show fneg b = false by unfold fneg; rw [h3]; rfl) (And.intro h2 (And.intro h4 h5)))
    clear h2 h3 h4 h5
    go_enter Tryd.func44, Tryd.ntmps44
    go_wp2_with (first | (go_at_call 29; refine (kind_any _ hb _).mono ?_; rintro e w' ⟨rfl, rfl⟩))
    refine bodyPost_ret (v := .tuple #[.agg #[.bool false, .int .u64 0, .int .i64 0], .int .i64 12]) (by simp [results, Tryd.results44, go_sem]) rfl ⟨ret_fin r.out.1.symm (by rw [r.out.2.2.1]; rfl) r.out.2.2.2.symm r.out.2.1.symm, HB.out⟩
  · have r := Lib.hid (And.intro (show fneg b = negB b by unfold fneg; rw [h3]; rfl) h2)
    have k0 : ¬ kindN b = 0 := by omega
    have k1 : ¬ kindN b = 1 := by omega
    clear h1 h2 h3
    go_enter Tryd.func44, Tryd.ntmps44
    go_wp2_with (first | (go_at_call 29; refine (kind_any _ hb _).mono ?_; rintro e w' ⟨rfl, rfl⟩) | (go_at_call 47; refine (parts_any _ hb _ HT.out).mono ?_; rintro e w' ⟨rfl, rfl⟩) | (go_at_call 48; refine (neg_any _ hb _).mono ?_; rintro e w' ⟨rfl, rfl⟩))
    refine bodyPost_ret (v := .tuple #[.agg #[.bool (negB b), .int .u64 (partM b : Int), .int .i64 (partE b)], .int .i64 0]) (by simp [results, Tryd.results44, go_sem]) rfl ⟨ret_fin r.out.1.symm rfl rfl r.out.2.symm, ?_⟩
    exact (Below.refl w.heap.size w).alloc (Nat.le_refl _) _
theorem ret_ie {a b c d : Int} (h1 : a = b) (h2 : c = d) : Ending.returned (.tuple #[.int .i64 a, .int .i64 c]) = .returned (.tuple #[.int .i64 b, .int .i64 d]) := by rw [h1, h2]
/-- The number that is z from nought, on the side that neg says. -/
theorem qsigned_any (neg : Bool) (z : Int) (h0 : 0 ≤ z) (hz : z ≤ 18446744073709551615) (w : World) :
    Calls Tryd.prog 45 #[.bool neg, .int .u64 z] w fun e w' => e = .returned (.tuple #[.int .i64 (sgnN neg z), .int .i64 (sgnE neg z)]) ∧ w = w' := by
  cases neg
  · by_cases h1 : z < 9223372036854775808
    · have r := Lib.hid (sgn_pos z h1)
      go_enter Tryd.func45, Tryd.ntmps45
      go_wp2
      go_ret2
      exact ⟨ret_ie (r.out.2.symm) r.out.1.symm, rfl⟩
    · have r := Lib.hid (sgn_pos_no z (by omega))
      go_enter Tryd.func45, Tryd.ntmps45
      go_wp2
      go_ret2
      exact ⟨ret_ie r.out.2.symm r.out.1.symm, rfl⟩
  · by_cases h1 : z ≤ 9223372036854775808
    · have r := Lib.hid (sgn_neg z h1)
      go_enter Tryd.func45, Tryd.ntmps45
      go_wp2
      go_ret2
      exact ⟨ret_ie (by rw [r.out.2]; unfold wrap64; rw [IntKind.wrap_u64]; omega) r.out.1.symm, rfl⟩
    · have r := Lib.hid (sgn_neg_no z (by omega))
      go_enter Tryd.func45, Tryd.ntmps45
      go_wp2
      go_ret2
      exact ⟨ret_ie r.out.2.symm r.out.1.symm, rfl⟩
theorem size_any (n : Int) (h1 : -9223372036854775808 ≤ n) (h2 : n ≤ 9223372036854775807) (w : World) :
    Calls Tryd.prog 27 #[.int .i64 n] w fun e w' => e = .returned (.int .u64 (n.natAbs : Int)) ∧ w = w' := by
  by_cases h : n < 0
  · go_enter Tryd.func27, Tryd.ntmps27
    go_wp2
    go_ret
    exact ⟨ret_i (by simp only [IntKind.wrap_u64]; omega), rfl⟩
  · go_enter Tryd.func27, Tryd.ntmps27
    go_wp2
    go_ret
    exact ⟨ret_i (by omega), rfl⟩
theorem shifted_any (neg : Bool) (m : Nat) (u : Nat) (h : m * 2 ^ u < 18446744073709551616) (w : World) :
    Calls Tryd.prog 45 #[.bool neg, .int .u64 (IntKind.u64.wrap ((m : Int) * 2 ^ u))] w fun e w' => e = .returned (.tuple #[.int .i64 (sgnN neg ((m * 2 ^ u : Nat) : Int)), .int .i64 (sgnE neg ((m * 2 ^ u : Nat) : Int))]) ∧ w = w' := by
  have e : IntKind.u64.wrap ((m : Int) * 2 ^ u) = ((m * 2 ^ u : Nat) : Int) := by
    rw [show (m : Int) * 2 ^ u = ((m * 2 ^ u : Nat) : Int) by simp, IntKind.wrap_u64]
    omega
  rw [e]
  exact qsigned_any neg _ (by omega) (by omega) w
set_option maxHeartbeats 400000 in
theorem steps_any (neg : Bool) (m : Nat) (p k : Int) (hm : m < 18446744073709551616) (hp1 : -1200 ≤ p) (hp2 : p ≤ 1100) (hk1 : -9223372036854775808 ≤ k) (hk2 : k ≤ 9223372036854775807) (w : World) :
    Calls Tryd.prog 36 #[.agg #[.bool neg, .int .u64 (m : Int), .int .i64 p], .int .i64 k] w fun e w' => e = .returned (.tuple #[.int .i64 (stepsN neg m p k), .int .i64 (stepsE neg m p k)]) ∧ Below w.heap.size w w' := by
  have hB0 := Lib.hid ((Below.refl w.heap.size w).alloc (Nat.le_refl _) (.cells #[.bool neg, .int .u64 (m : Int), .int .i64 p] 77))
  by_cases h0 : m = 0
  · subst h0
    have r := Lib.hid (steps_nought neg p k)
    go_enter Tryd.func36, Tryd.ntmps36
    go_wp2
    go_ret2
    exact ⟨ret_ie r.out.2.symm r.out.1.symm, hB0.out⟩
  have hz0 : ¬ (m : Int) = 0 := by omega
  by_cases hf : p < k
  · have r := Lib.hid (steps_frac neg m p k h0 hf)
    go_enter Tryd.func36, Tryd.ntmps36
    go_wp2
    go_ret2
    exact ⟨ret_ie r.out.2.symm r.out.1.symm, hB0.out⟩
  by_cases hr : k < p - 63
  · have r := Lib.hid (steps_far neg m p k h0 hm (by omega) (by have := (bl_spec m h0 hm).2.2.1; omega))
    go_enter Tryd.func36, Tryd.ntmps36
    go_wp2
    go_ret2
    exact ⟨ret_ie r.out.2.symm r.out.1.symm, hB0.out⟩
  obtain ⟨g1, g2, g3, g4⟩ := bl_spec m h0 hm
  clear g1 g2
  by_cases hl : 64 < bl m + (p - k)
  · have r := Lib.hid (steps_far neg m p k h0 hm (by omega) hl)
    go_enter Tryd.func36, Tryd.ntmps36
    go_wp2_with (first | (go_at_call 41; refine (len_any _ hm _).mono ?_; rintro e w' ⟨rfl, rfl⟩))
    go_ret2
    exact ⟨ret_ie r.out.2.symm r.out.1.symm, hB0.out⟩
  · have r := Lib.hid (steps_sgn neg m p k h0 (by omega))
    have hfit := Lib.hid (fit_pow m (p - k).toNat h0 hm (by omega))
    go_enter Tryd.func36, Tryd.ntmps36
    go_wp2_with (first | (go_at_call 41; refine (len_any _ hm _).mono ?_; rintro e w' ⟨rfl, rfl⟩))
    go_quiet ((go_at_call 45; exact Calls.quiet_of_same (flip_same (shifted_any neg m _ hfit.out _))))
    go_wp2
    go_ret2
    exact ⟨ret_ie r.out.2.symm r.out.1.symm, below_drewN hB0.out _⟩
end Go.Proofs.YtopniihomjakoaaDoor
