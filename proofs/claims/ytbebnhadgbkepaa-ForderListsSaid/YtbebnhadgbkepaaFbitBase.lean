/- Contracts of those of package fbit's functions that make no number of parts, at every argument: Of, Bits, Kind, Neg; and of the document's own Kind and Bits. -/
import Derived.Laws.Externs
import Derived.WalkLawsBesides
import Derived.Test.YtbebnhadgbkepaaKit
import Derived.Test.YtbebnhadgbkepaaFbitPure
namespace Go.Proofs.Ytbebnhadgbkepaa
open Go.RowKit Go.ChangeShapes FbitPure
theorem run_bits (b : Nat) (w : World) : (callFunc 30 #[.float .f64 b]).run Try.prog w = .ok (.value (.int .u64 b)) w := by
  rw [run_callFunc_extern (e := Go.Extern.MathFloatBits.float64bits) Try.func30 (by kernel_rfl) (by kernel_rfl) (by kernel_rfl) (by kernel_rfl)]
  rfl
theorem run_from (n : Nat) (w : World) : (callFunc 22 #[.int .u64 n]).run Try.prog w = .ok (.value (.float .f64 n)) w := by
  rw [run_callFunc_extern (e := Go.Extern.MathFloatBits.float64frombits) Try.func22 (by kernel_rfl) (by kernel_rfl) (by kernel_rfl) (by kernel_rfl)]
  rfl
theorem of_any (b : Nat) (w : World) :
    Calls Try.prog 6 #[.int .u64 b] w fun e w' => e = .returned (.float .f64 b) ∧ w = w' := by
  have hd := run_from b
  go_enter Try.func6, Try.ntmps6
  go_wp2
  go_ret
  exact ⟨rfl, rfl⟩
theorem ret_bii {k l : IntKind} {a b : Bool} {c d m n : Int} (h1 : a = b) (h2 : c = d) (h3 : m = n) : Ending.returned (.tuple #[.bool a, .int k c, .int l m]) = .returned (.tuple #[.bool b, .int k d, .int l n]) := by rw [h1, h2, h3]
theorem fields_any (b : Nat) (hb : (b : Int) ≤ 18446744073709551615) (w : World) :
    Calls Try.prog 38 #[.float .f64 b] w fun e w' => e = .returned (.tuple #[.bool (topB b), .int .i64 (eN b : Int), .int .u64 (fN b : Int)]) ∧ w = w' := by
  have hd := run_bits b
  have e1 := Lib.hid (and_s b hb)
  have e2 := Lib.hid (and_e b hb)
  have e3 := Lib.hid (and_f b hb)
  have e4 := Lib.hid (eN_lt b)
  go_enter Try.func38, Try.ntmps38
  go_wp2
  go_ret3
  exact ⟨ret_bii e1.out (by rw [e2.out]; have := e4.out; unfold wrap64; omega) e3.out, rfl⟩
theorem kind_any (b : Nat) (hb : (b : Int) ≤ 18446744073709551615) (w : World) :
    Calls Try.prog 29 #[.float .f64 b] w fun e w' => e = .returned (.int .i64 (kindN b)) ∧ w = w' := by
  have hk := kind_cases b
  rcases hk with ⟨h1, h2, h3⟩ | ⟨h1, h2, h3⟩ | ⟨h1, h2, h3⟩ | ⟨h1, h2, h3⟩ | ⟨h1, h2, h3⟩
  all_goals
    have h4 := Lib.hid h3
    clear h3
    go_enter Try.func29, Try.ntmps29
    go_wp2_with (first | (go_at_call 38; refine (fields_any _ hb _).mono ?_; rintro e w' ⟨rfl, rfl⟩))
    go_ret
    exact ⟨ret_i (by rw [h4.out]), rfl⟩
theorem of_int (z : Int) (hz : 0 ≤ z) (w : World) :
    Calls Try.prog 6 #[.int .u64 z] w fun e w' => e = .returned (.float .f64 z.toNat) ∧ w = w' := by
  obtain ⟨n, rfl⟩ := Int.eq_ofNat_of_zero_le hz
  exact of_any n w
theorem ret_f {a b : Nat} (h : a = b) : Ending.returned (.float .f64 a) = .returned (.float .f64 b) := by rw [h]
theorem bits_any (b : Nat) (hb : (b : Int) ≤ 18446744073709551615) (w : World) :
    Calls Try.prog 14 #[.float .f64 b] w fun e w' => e = .returned (.int .u64 (bitsN b : Int)) ∧ w = w' := by
  have hd := run_bits b
  by_cases h : kindN b = 0
  · have e1 := Lib.hid (show bitsN b = 9221120237041090560 from if_pos h)
    go_enter Try.func14, Try.ntmps14
    go_wp2_with (first | (go_at_call 29; refine (kind_any _ hb _).mono ?_; rintro e w' ⟨rfl, rfl⟩))
    go_ret
    exact ⟨ret_i (by rw [e1.out]; rfl), rfl⟩
  · have e1 := Lib.hid (show bitsN b = b from if_neg h)
    go_enter Try.func14, Try.ntmps14
    go_wp2_with (first | (go_at_call 29; refine (kind_any _ hb _).mono ?_; rintro e w' ⟨rfl, rfl⟩))
    go_ret
    exact ⟨ret_i (by rw [e1.out]), rfl⟩
theorem neg_any (b : Nat) (hb : (b : Int) ≤ 18446744073709551615) (w : World) :
    Calls Try.prog 36 #[.float .f64 b] w fun e w' => e = .returned (.bool (negB b)) ∧ w = w' := by
  have e1 := Lib.hid (show negB b = (topB b && decide (kindN b ≠ 0)) from rfl)
  cases ht : topB b
  · have e2 := Lib.hid ht
    go_enter Try.func36, Try.ntmps36
    go_wp2_with (first | (go_at_call 38; refine (fields_any _ hb _).mono ?_; rintro e w' ⟨rfl, rfl⟩) | (go_at_call 29; refine (kind_any _ hb _).mono ?_; rintro e w' ⟨rfl, rfl⟩))
    go_ret
    exact ⟨bool_ret (by rw [e1.out, e2.out]; rfl), rfl⟩
  · have e2 := Lib.hid ht
    by_cases h : kindN b = 0
    · have e3 := Lib.hid h
      go_enter Try.func36, Try.ntmps36
      go_wp2_with (first | (go_at_call 38; refine (fields_any _ hb _).mono ?_; rintro e w' ⟨rfl, rfl⟩) | (go_at_call 29; refine (kind_any _ hb _).mono ?_; rintro e w' ⟨rfl, rfl⟩))
      go_ret
      exact ⟨bool_ret (by rw [e1.out, e2.out, e3.out]; rfl), rfl⟩
    · have e3 := Lib.hid h
      go_enter Try.func36, Try.ntmps36
      go_wp2_with (first | (go_at_call 38; refine (fields_any _ hb _).mono ?_; rintro e w' ⟨rfl, rfl⟩) | (go_at_call 29; refine (kind_any _ hb _).mono ?_; rintro e w' ⟨rfl, rfl⟩))
      go_ret
      exact ⟨bool_ret (by rw [e1.out, e2.out]; simp [e3.out]), rfl⟩
theorem refKind_any (b : Nat) (hb : (b : Int) ≤ 18446744073709551615) (w : World) :
    Calls Try.prog 31 #[.int .u64 b] w fun e w' => e = .returned (.int .i64 (kindN b)) ∧ w = w' := by
  have e2 := and_e b hb
  have e3 := and_f b hb
  have hk := kind_cases b
  rcases hk with ⟨h1, h2, h3⟩ | ⟨h1, h2, h3⟩ | ⟨h1, h2, h3⟩ | ⟨h1, h2, h3⟩ | ⟨h1, h2, h3⟩
  all_goals
    have h4 := Lib.hid h3
    clear h3
    go_enter Try.func31, Try.ntmps31
    go_wp2
    go_ret
    exact ⟨ret_i (by rw [h4.out]), rfl⟩
theorem refBits_any (b : Nat) (hb : (b : Int) ≤ 18446744073709551615) (w : World) :
    Calls Try.prog 15 #[.int .u64 b] w fun e w' => e = .returned (.int .u64 (bitsN b : Int)) ∧ w = w' := by
  by_cases h : kindN b = 0
  · have e1 := Lib.hid (show bitsN b = 9221120237041090560 from if_pos h)
    go_enter Try.func15, Try.ntmps15
    go_wp2_with (first | (go_at_call 31; refine (refKind_any _ hb _).mono ?_; rintro e w' ⟨rfl, rfl⟩))
    go_ret
    exact ⟨ret_i (by rw [e1.out]; rfl), rfl⟩
  · have e1 := Lib.hid (show bitsN b = b from if_neg h)
    go_enter Try.func15, Try.ntmps15
    go_wp2_with (first | (go_at_call 31; refine (refKind_any _ hb _).mono ?_; rintro e w' ⟨rfl, rfl⟩))
    go_ret
    exact ⟨ret_i (by rw [e1.out]), rfl⟩
theorem flip_same {P : Program} {f : FuncId} {args : Array Value} {w : World} {v : Value} (h : Calls P f args w fun e w' => e = .returned v ∧ w = w') : Calls P f args w fun e w' => e = .returned v ∧ w' = w :=
  h.mono fun _ _ ⟨h1, h2⟩ => ⟨h1, h2.symm⟩
end Go.Proofs.Ytbebnhadgbkepaa
