/- Contracts of package fint's functions, at every argument. -/
import Derived.Test.YtmagdmjccljkiaaDoorFbitCode
import Derived.Test.YtmagdmjccljkiaaDoorFintPure
namespace Go.Proofs.YtmagdmjccljkiaaDoor
open Go.RowKit Go.ChangeShapes FbitPure FintPure
theorem notWhole_any (b : Nat) (hb : (b : Int) ≤ 18446744073709551615) (w : World) (hT : TabAt 1 Lib.deBruijn64tab w) :
    Calls Tryd.prog 35 #[.float .f64 b] w fun e w' => e = .returned (.int .i64 (wholeE b)) ∧ w = w' := by
  have HT := Lib.hid hT
  clear hT
  have hpb := part_bounds b
  rcases whole_cases b with ⟨h1, h2⟩ | ⟨h1, h2⟩ | ⟨h1, h2, h3⟩ | ⟨h1, h2, h3⟩
  · have r := Lib.hid h2
    clear h2 hpb
    go_enter Tryd.func35, Tryd.ntmps35
    go_wp2_with (first | (go_at_call 29; refine (kind_any _ hb _).mono ?_; rintro e w' ⟨rfl, rfl⟩))
    go_ret
    exact ⟨ret_i r.out.symm, rfl⟩
  · have r := Lib.hid h2
    clear h2 hpb
    go_enter Tryd.func35, Tryd.ntmps35
    go_wp2_with (first | (go_at_call 29; refine (kind_any _ hb _).mono ?_; rintro e w' ⟨rfl, rfl⟩))
    go_ret
    exact ⟨ret_i r.out.symm, rfl⟩
  · have r := Lib.hid h3
    have t0 : (kindN b == 0) = false := by simp; omega
    have t1 : (kindN b == 1) = false := by simp; omega
    clear h3 hpb
    go_enter Tryd.func35, Tryd.ntmps35
    go_wp2_with (first
      | (go_at_call 29; refine (kind_any _ hb _).mono ?_; rintro e w' ⟨rfl, rfl⟩)
      | (go_at_call 38; refine (parts_any _ hb _ HT.out).mono ?_; rintro e w' ⟨rfl, rfl⟩))
    go_ret
    exact ⟨ret_i r.out.symm, rfl⟩
  · have r := Lib.hid h3
    have t0 : (kindN b == 0) = false := by simp; omega
    have t1 : (kindN b == 1) = false := by simp; omega
    clear h3 hpb
    go_enter Tryd.func35, Tryd.ntmps35
    go_wp2_with (first
      | (go_at_call 29; refine (kind_any _ hb _).mono ?_; rintro e w' ⟨rfl, rfl⟩)
      | (go_at_call 38; refine (parts_any _ hb _ HT.out).mono ?_; rintro e w' ⟨rfl, rfl⟩))
    go_ret
    exact ⟨ret_i r.out.symm, rfl⟩
theorem wrong2_any (b : Nat) (hb : (b : Int) ≤ 18446744073709551615) (w : World) (hT : TabAt 1 Lib.deBruijn64tab w) :
    Calls Tryd.prog 28 #[.float .f64 b, .int .i64 2] w fun e w' => e = .returned (.int .i64 (wholeE b)) ∧ w = w' := by
  have HT := Lib.hid hT
  clear hT
  by_cases hw : wholeE b = 0
  · have HW := Lib.hid hw
    go_enter Tryd.func28, Tryd.ntmps28
    go_wp2_with (first
      | (go_at_call 35; refine (notWhole_any _ hb _ HT.out).mono ?_; rintro e w' ⟨rfl, rfl⟩))
    go_ret
    exact ⟨ret_i HW.out.symm, rfl⟩
  · have t : (wholeE b != 0) = true := by simp [hw]
    clear hw
    go_enter Tryd.func28, Tryd.ntmps28
    go_wp2_with (first
      | (go_at_call 35; refine (notWhole_any _ hb _ HT.out).mono ?_; rintro e w' ⟨rfl, rfl⟩))
    go_ret
    exact ⟨rfl, rfl⟩
theorem wrong1_any (b : Nat) (hb : (b : Int) ≤ 18446744073709551615) (w : World) (hT : TabAt 1 Lib.deBruijn64tab w) :
    Calls Tryd.prog 28 #[.float .f64 b, .int .i64 1] w fun e w' => e = .returned (.int .i64 (intE b)) ∧ w = w' := by
  have HT := Lib.hid hT
  clear hT
  have R := Lib.hid (int_tests b (by omega))
  cases c3 : (FloatKind.f64.format.order b 14114281232179134464 == some .lt) <;> cases c4 : (FloatKind.f64.format.order b 4890909195324358656 == some .gt) <;> cases c5 : (FloatKind.f64.format.order b 4890909195324358656 == some .eq)
  all_goals
    have R1 := R.out
    rw [c3, c4, c5] at R1
    by_cases hw : wholeE b = 0
    · rw [if_neg (by omega)] at R1
      have R2 := Lib.hid R1
      clear R1
      go_enter Tryd.func28, Tryd.ntmps28
      go_wp2_with (first
        | (go_at_call 35; refine (notWhole_any _ hb _ HT.out).mono ?_; rintro e w' ⟨rfl, rfl⟩))
      go_ret
      exact ⟨ret_i (by rw [R2.out]; decide), rfl⟩
    · rw [if_pos hw] at R1
      have R2 := Lib.hid R1
      have t : (wholeE b != 0) = true := by simp [hw]
      clear R1 hw
      go_enter Tryd.func28, Tryd.ntmps28
      go_wp2_with (first
        | (go_at_call 35; refine (notWhole_any _ hb _ HT.out).mono ?_; rintro e w' ⟨rfl, rfl⟩))
      go_ret
      exact ⟨ret_i R2.out.symm, rfl⟩
set_option maxHeartbeats 1000000 in
theorem wrong0_any (b : Nat) (hb : (b : Int) ≤ 18446744073709551615) (w : World) (hT : TabAt 1 Lib.deBruijn64tab w) :
    Calls Tryd.prog 28 #[.float .f64 b, .int .i64 0] w fun e w' => e = .returned (.int .i64 (weightE b)) ∧ w = w' := by
  have HT := Lib.hid hT
  clear hT
  have R := Lib.hid (weight_tests b (by omega))
  cases c1 : (FloatKind.f64.format.order b 0 == some .lt) <;> cases c2 : (FloatKind.f64.format.order b 4746794007248502784 == some .gt) <;> cases c3 : (FloatKind.f64.format.order b 14114281232179134464 == some .lt) <;> cases c4 : (FloatKind.f64.format.order b 4890909195324358656 == some .gt) <;> cases c5 : (FloatKind.f64.format.order b 4890909195324358656 == some .eq)
  all_goals
    have R1 := R.out
    rw [c1, c2, c3, c4, c5] at R1
    by_cases hw : wholeE b = 0
    · rw [if_neg (by omega)] at R1
      have R2 := Lib.hid R1
      clear R1
      go_enter Tryd.func28, Tryd.ntmps28
      go_wp2_with (first
        | (go_at_call 35; refine (notWhole_any _ hb _ HT.out).mono ?_; rintro e w' ⟨rfl, rfl⟩))
      go_ret
      exact ⟨ret_i (by rw [R2.out]; decide), rfl⟩
    · rw [if_pos hw] at R1
      have R2 := Lib.hid R1
      have t : (wholeE b != 0) = true := by simp [hw]
      clear R1 hw
      go_enter Tryd.func28, Tryd.ntmps28
      go_wp2_with (first
        | (go_at_call 35; refine (notWhole_any _ hb _ HT.out).mono ?_; rintro e w' ⟨rfl, rfl⟩))
      go_ret
      exact ⟨ret_i R2.out.symm, rfl⟩
theorem run_conv (b : Nat) (hb : b < 18446744073709551616) (h : intE b = 0) (w : World) : (convert 23 2 (.float .f64 b)).run Tryd.prog w = .ok (.int .i64 (valI b)) w :=
  run_convert_float_int w 23 2 .f64 .i64 b (valI b) (by rw [Tryd.underlying23]; rfl) Tryd.underlying2 (conv_val b hb h)
theorem number1_any (b : Nat) (hb : (b : Int) ≤ 18446744073709551615) (w : World) (hT : TabAt 1 Lib.deBruijn64tab w) :
    Calls Tryd.prog 21 #[.float .f64 b, .int .i64 1] w fun e w' => e = .returned (.tuple #[.int .i64 (intN b), .int .i64 (intE b)]) ∧ w = w' := by
  have HT := Lib.hid hT
  clear hT
  by_cases hw : intE b = 0
  · have HW := Lib.hid hw
    have hc := run_conv b (by omega) hw
    go_enter Tryd.func21, Tryd.ntmps21
    go_wp2_with (first
      | (go_at_call 28; refine (wrong1_any _ hb _ HT.out).mono ?_; rintro e w' ⟨rfl, rfl⟩))
    go_ret2
    exact ⟨ret_ii (show valI b = intN b from (if_pos HW.out).symm) HW.out.symm, rfl⟩
  · have t : (intE b != 0) = true := by simp [hw]
    have HW := Lib.hid hw
    clear hw
    go_enter Tryd.func21, Tryd.ntmps21
    go_wp2_with (first
      | (go_at_call 28; refine (wrong1_any _ hb _ HT.out).mono ?_; rintro e w' ⟨rfl, rfl⟩))
    go_ret2
    exact ⟨ret_ii (show 0 = intN b from (if_neg HW.out).symm) rfl, rfl⟩
theorem number0_any (b : Nat) (hb : (b : Int) ≤ 18446744073709551615) (w : World) (hT : TabAt 1 Lib.deBruijn64tab w) :
    Calls Tryd.prog 21 #[.float .f64 b, .int .i64 0] w fun e w' => e = .returned (.tuple #[.int .i64 (weightN b), .int .i64 (weightE b)]) ∧ w = w' := by
  have HT := Lib.hid hT
  clear hT
  by_cases hw : weightE b = 0
  · have HW := Lib.hid hw
    have hc := run_conv b (by omega) (weight_int hw)
    go_enter Tryd.func21, Tryd.ntmps21
    go_wp2_with (first
      | (go_at_call 28; refine (wrong0_any _ hb _ HT.out).mono ?_; rintro e w' ⟨rfl, rfl⟩))
    go_ret2
    exact ⟨ret_ii (show valI b = weightN b from (if_pos HW.out).symm) HW.out.symm, rfl⟩
  · have t : (weightE b != 0) = true := by simp [hw]
    have HW := Lib.hid hw
    clear hw
    go_enter Tryd.func21, Tryd.ntmps21
    go_wp2_with (first
      | (go_at_call 28; refine (wrong0_any _ hb _ HT.out).mono ?_; rintro e w' ⟨rfl, rfl⟩))
    go_ret2
    exact ⟨ret_ii (show 0 = weightN b from (if_neg HW.out).symm) rfl, rfl⟩
theorem int_any (b : Nat) (hb : (b : Int) ≤ 18446744073709551615) (w : World) (hT : TabAt 1 Lib.deBruijn64tab w) :
    Calls Tryd.prog 7 #[.float .f64 b] w fun e w' => e = .returned (.tuple #[.int .i64 (intN b), .int .i64 (intE b)]) ∧ w = w' := by
  have HT := Lib.hid hT
  clear hT
  go_enter Tryd.func7, Tryd.ntmps7
  go_wp2_with (first
    | (go_at_call 21; refine (number1_any _ hb _ HT.out).mono ?_; rintro e w' ⟨rfl, rfl⟩))
  go_ret2
  exact ⟨rfl, rfl⟩
theorem weight_any (b : Nat) (hb : (b : Int) ≤ 18446744073709551615) (w : World) (hT : TabAt 1 Lib.deBruijn64tab w) :
    Calls Tryd.prog 8 #[.float .f64 b] w fun e w' => e = .returned (.tuple #[.int .i64 (weightN b), .int .i64 (weightE b)]) ∧ w = w' := by
  have HT := Lib.hid hT
  clear hT
  go_enter Tryd.func8, Tryd.ntmps8
  go_wp2_with (first
    | (go_at_call 21; refine (number0_any _ hb _ HT.out).mono ?_; rintro e w' ⟨rfl, rfl⟩))
  go_ret2
  exact ⟨rfl, rfl⟩
theorem whole_any (b : Nat) (hb : (b : Int) ≤ 18446744073709551615) (w : World) (hT : TabAt 1 Lib.deBruijn64tab w) :
    Calls Tryd.prog 13 #[.float .f64 b] w fun e w' => e = .returned (.bool (wholeE b == 0)) ∧ w = w' := by
  have HT := Lib.hid hT
  clear hT
  go_enter Tryd.func13, Tryd.ntmps13
  go_wp2_with (first
    | (go_at_call 28; refine (wrong2_any _ hb _ HT.out).mono ?_; rintro e w' ⟨rfl, rfl⟩))
  go_ret
  exact ⟨rfl, rfl⟩
theorem size_any (n : Int) (h1 : -9223372036854775808 ≤ n) (h2 : n ≤ 9223372036854775807) (w : World) :
    Calls Tryd.prog 23 #[.int .i64 n] w fun e w' => e = .returned (.int .u64 (n.natAbs : Int)) ∧ w = w' := by
  by_cases h : n < 0
  · go_enter Tryd.func23, Tryd.ntmps23
    go_wp2
    go_ret
    exact ⟨ret_i (size_neg n h h1), rfl⟩
  · go_enter Tryd.func23, Tryd.ntmps23
    go_wp2
    go_ret
    exact ⟨ret_i (size_pos n (by omega) h2), rfl⟩
theorem float_any (n : Int) (h1 : -9223372036854775808 ≤ n) (h2 : n ≤ 9223372036854775807) (w : World) (hT : TabAt 1 Lib.deBruijn64tab w) :
    Calls Tryd.prog 9 #[.int .i64 n] w fun e w' => e = .returned (.tuple #[.float .f64 (makeW (decide (n < 0)) n.natAbs 0), .bool (makeOk n.natAbs 0)]) ∧ w = w' := by
  have HT := Lib.hid hT
  clear hT
  have hn : n.natAbs < 18446744073709551616 := by omega
  go_enter Tryd.func9, Tryd.ntmps9
  go_wp2_with (first
    | (go_at_call 23; refine (size_any _ h1 h2 _).mono ?_; rintro e w' ⟨rfl, rfl⟩)
    | (go_at_call 22; refine (make_any _ _ _ hn (by omega) (by omega) _ HT.out).mono ?_; rintro e w' ⟨rfl, rfl⟩))
  go_ret2
  exact ⟨rfl, rfl⟩
end Go.Proofs.YtmagdmjccljkiaaDoor
