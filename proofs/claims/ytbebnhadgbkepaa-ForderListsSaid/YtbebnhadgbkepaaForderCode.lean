/- Contracts of package forder's plain functions, at every argument. -/
import Derived.Test.YtbebnhadgbkepaaFbitBase
import Derived.Test.YtbebnhadgbkepaaForderPure
namespace Go.Proofs.Ytbebnhadgbkepaa
open Go.RowKit Go.ChangeShapes FbitPure ForderPure
theorem sub_top (k : Int) (h0 : 9223372036854775808 ≤ k) (hk : k ≤ 18446744073709551615) : bits .andNot .u64 k 9223372036854775808 = k - 9223372036854775808 := by
  rw [u64_andNot k 9223372036854775808 (by omega) (by omega) (by omega) (by omega), show 18446744073709551615 - Int.toNat 9223372036854775808 = 2 ^ 63 - 1 by rfl, Nat.and_two_pow_sub_one_eq_mod]
  omega
theorem nat_not (b : Nat) (h : b ≤ 18446744073709551615) : 18446744073709551615 ^^^ b = 18446744073709551615 - b := by
  have h1 := BitVec.toNat_not (x := BitVec.ofNat 64 b)
  rw [BitVec.not_def, BitVec.toNat_xor, BitVec.toNat_allOnes, BitVec.toNat_ofNat, Nat.mod_eq_of_lt (by omega)] at h1
  exact h1
theorem not_top (z : Int) (h0 : 0 ≤ z) (hz : z ≤ 18446744073709551615) : bits .xor .u64 IntKind.u64.max z = 18446744073709551615 - z := by
  obtain ⟨b, rfl⟩ := Int.eq_ofNat_of_zero_le h0
  rw [show IntKind.u64.max = ((18446744073709551615 : Nat) : Int) from rfl, bits_xor_u64_nat _ _ (by omega) (by omega), nat_not b (by omega)]
  omega
theorem keyOf_any (b : Nat) (hb : (b : Int) ≤ 18446744073709551615) (w : World) :
    Calls Try.prog 24 #[.float .f64 b] w fun e w' => e = .returned (.int .u64 (pk b : Int)) ∧ w = w' := by
  have hl := bits_le (b := b) (by omega)
  have hr := Lib.hid (show pk b = if negB b then 18446744073709551615 - b else bitsN b + 9223372036854775808 from rfl)
  cases hn : negB b
  · have hn' := Lib.hid hn
    have hlt : bitsN b < 9223372036854775808 := by
      rcases cases3 b (by omega) with ⟨k, h, _⟩ | ⟨k, ht, h0, h, _⟩ | ⟨k, _, h0, h, _⟩
      · rw [bits_nan k]; omega
      · rw [neg_num k, ht] at hn; cases hn
      · rw [bits_num k]; omega
    have ho := or_s (bitsN b) hlt
    clear hn
    go_enter Try.func24, Try.ntmps24
    go_wp2_with (first | (go_at_call 14; refine (bits_any _ hb _).mono ?_; rintro e w' ⟨rfl, rfl⟩) | (go_at_call 36; refine (neg_any _ hb _).mono ?_; rintro e w' ⟨rfl, rfl⟩; rw [hn'.out]))
    go_ret
    exact ⟨ret_i (by rw [hr.out, hn'.out]; simp), rfl⟩
  · have hn' := Lib.hid hn
    have hlt : 9223372036854775808 ≤ b ∧ bitsN b = b := by
      rcases cases3 b (by omega) with ⟨k, h, _⟩ | ⟨k, ht, h0, h, _⟩ | ⟨k, ht, h0, h, _⟩
      · rw [neg_nan k] at hn; cases hn
      · exact ⟨h0, bits_num k⟩
      · rw [neg_num k, ht] at hn; cases hn
    have HL := Lib.hid hlt
    have hx := not_top (bitsN b : Int) (by omega) (by omega)
    clear hn hlt
    go_enter Try.func24, Try.ntmps24
    go_wp2_with (first | (go_at_call 14; refine (bits_any _ hb _).mono ?_; rintro e w' ⟨rfl, rfl⟩) | (go_at_call 36; refine (neg_any _ hb _).mono ?_; rintro e w' ⟨rfl, rfl⟩; rw [hn'.out]))
    go_ret
    exact ⟨ret_i (by rw [hr.out, hn'.out]; simp; rw [HL.out.2]; omega), rfl⟩
theorem float_int (k : Int) (h0 : 0 ≤ k) (hk : k ≤ 18446744073709551615) (w : World) :
    Calls Try.prog 28 #[.int .u64 k] w fun e w' => e = .returned (.float .f64 (unk k.toNat)) ∧ w = w' := by
  by_cases h : k < 9223372036854775808
  · have hr := Lib.hid (show unk k.toNat = 18446744073709551615 - k.toNat from if_pos (by omega))
    have hx := not_top k h0 hk
    go_enter Try.func28, Try.ntmps28
    go_wp2_with (first | (go_at_call 6; refine (of_int _ (by omega) _).mono ?_; rintro e w' ⟨rfl, rfl⟩))
    go_ret
    exact ⟨ret_f (by rw [hr.out]; omega), rfl⟩
  · have hr := Lib.hid (show unk k.toNat = k.toNat - 9223372036854775808 from if_neg (by omega))
    have ha := sub_top k (by omega) hk
    go_enter Try.func28, Try.ntmps28
    go_wp2_with (first | (go_at_call 6; refine (of_int _ (by omega) _).mono ?_; rintro e w' ⟨rfl, rfl⟩))
    go_ret
    exact ⟨ret_f (by rw [hr.out]; omega), rfl⟩
theorem float_any (k : Nat) (hk : (k : Int) ≤ 18446744073709551615) (w : World) :
    Calls Try.prog 28 #[.int .u64 k] w fun e w' => e = .returned (.float .f64 (unk k)) ∧ w = w' := float_int k (by omega) hk w
theorem ahead_any (x y : Nat) (w : World) :
    Calls Try.prog 26 #[.int .u64 x, .int .u64 y] w fun e w' => e = .returned (.bool (ltB x y)) ∧ w = w' := by
  go_enter Try.func26, Try.ntmps26
  go_wp2
  go_ret
  exact ⟨bool_ret (by unfold ltB; simp), rfl⟩
theorem behind_any (x y : Nat) (w : World) :
    Calls Try.prog 33 #[.int .u64 x, .int .u64 y] w fun e w' => e = .returned (.bool (gtB x y)) ∧ w = w' := by
  go_enter Try.func33, Try.ntmps33
  go_wp2
  go_ret
  exact ⟨bool_ret (by unfold gtB; simp), rfl⟩
theorem isNaN_any (x : Int) (w : World) :
    Calls Try.prog 35 #[.int .u64 x] w fun e w' => e = .returned (.bool false) ∧ w = w' := by
  go_enter Try.func35, Try.ntmps35
  go_wp2
  go_ret
  exact ⟨rfl, rfl⟩
theorem less_any (x y : Int) (w : World) :
    Calls Try.prog 47 #[.int .u64 x, .int .u64 y] w fun e w' => e = .returned (.bool (decide (x < y))) ∧ w = w' := by
  go_enter Try.func47, Try.ntmps47
  go_wp2_with (first | (go_at_call 35; refine (isNaN_any _ _).mono ?_; rintro e w' ⟨rfl, rfl⟩))
  go_ret
  exact ⟨rfl, rfl⟩
theorem compare_any (x y : Nat) (w : World) :
    Calls Try.prog 23 #[.int .u64 x, .int .u64 y] w fun e w' => e = .returned (.int .i64 (cmpN x y)) ∧ w = w' := by
  have HC : Hid (∀ c : Int, cmpN x y = c ↔ ((x < y → c = -1) ∧ (y < x → c = 1) ∧ (x = y → c = 0))) := by
    show ∀ c : Int, _
    intro c
    unfold cmpN
    by_cases h : x < y
    · simp [h]; omega
    · by_cases h2 : y < x <;> simp [h, h2] <;> omega
  rcases Nat.lt_trichotomy x y with h | h | h
  all_goals
    go_enter Try.func23, Try.ntmps23
    go_wp2_with (first | (go_at_call 35; refine (isNaN_any _ _).mono ?_; rintro e w' ⟨rfl, rfl⟩))
    go_ret
    exact ⟨ret_i (by rw [eq_comm, HC.out]; omega), rfl⟩
theorem cmp_any (a b : Nat) (ha : (a : Int) ≤ 18446744073709551615) (hb : (b : Int) ≤ 18446744073709551615) (w : World) :
    Calls Try.prog 7 #[.float .f64 a, .float .f64 b] w fun e w' => e = .returned (.int .i64 (cmpN (pk a) (pk b))) ∧ w = w' := by
  go_enter Try.func7, Try.ntmps7
  go_wp2_with (first | (go_at_call 24; refine (keyOf_any _ (by assumption) _).mono ?_; rintro e w' ⟨rfl, rfl⟩) | (go_at_call 23; refine (compare_any _ _ _).mono ?_; rintro e w' ⟨rfl, rfl⟩))
  go_ret
  exact ⟨rfl, rfl⟩
theorem fless_any (a b : Nat) (ha : (a : Int) ≤ 18446744073709551615) (hb : (b : Int) ≤ 18446744073709551615) (w : World) :
    Calls Try.prog 9 #[.float .f64 a, .float .f64 b] w fun e w' => e = .returned (.bool (ltB (pk a) (pk b))) ∧ w = w' := by
  go_enter Try.func9, Try.ntmps9
  go_wp2_with (first | (go_at_call 24; refine (keyOf_any _ (by assumption) _).mono ?_; rintro e w' ⟨rfl, rfl⟩) | (go_at_call 26; refine (ahead_any _ _ _).mono ?_; rintro e w' ⟨rfl, rfl⟩))
  go_ret
  exact ⟨rfl, rfl⟩
theorem rkey_any (b : Nat) (hb : (b : Int) ≤ 18446744073709551615) (w : World) :
    Calls Try.prog 25 #[.int .u64 b] w fun e w' => e = .returned (.int .u64 (rk b : Int)) ∧ w = w' := by
  rcases cases3 b (by omega) with ⟨k, _, h⟩ | ⟨k, ht, h0, _, h⟩ | ⟨k, ht, h0, _, h⟩
  all_goals
    have h' := Lib.hid h
    clear h
    go_enter Try.func25, Try.ntmps25
    go_wp2_with (first | (go_at_call 31; refine (refKind_any _ hb _).mono ?_; rintro e w' ⟨rfl, rfl⟩))
    go_ret
    exact ⟨ret_i (by rw [h'.out]; omega), rfl⟩
theorem refCmp_any (a b : Nat) (ha : (a : Int) ≤ 18446744073709551615) (hb : (b : Int) ≤ 18446744073709551615) (w : World) :
    Calls Try.prog 8 #[.int .u64 a, .int .u64 b] w fun e w' => e = .returned (.int .i64 (cmpN (pk a) (pk b))) ∧ w = w' := by
  have hab := rk_lt (a := a) (b := b) (by omega) (by omega)
  have hba := rk_lt (a := b) (b := a) (by omega) (by omega)
  have HC : Hid (∀ c : Int, cmpN (pk a) (pk b) = c ↔ ((rk a < rk b → c = -1) ∧ (rk b < rk a → c = 1) ∧ (rk a = rk b → c = 0))) := by
    show ∀ c : Int, _
    intro c
    rw [hab, hba, show rk a = rk b ↔ pk a = pk b by omega]
    unfold cmpN
    by_cases h : pk a < pk b
    · simp [h]; omega
    · by_cases h2 : pk b < pk a <;> simp [h, h2] <;> omega
  clear hab hba
  rcases Nat.lt_trichotomy (rk a) (rk b) with h | h | h
  all_goals
    go_enter Try.func8, Try.ntmps8
    go_wp2_with (first | (go_at_call 25; refine (rkey_any _ (by assumption) _).mono ?_; rintro e w' ⟨rfl, rfl⟩))
    go_ret
    exact ⟨ret_i (by rw [eq_comm, HC.out]; omega), rfl⟩
end Go.Proofs.Ytbebnhadgbkepaa
