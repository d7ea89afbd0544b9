/- Texts that the laws of this seat stand on, part 21. -/
import Derived.Test.YtdbebebhldldmaaGreatDoorPk20
import Derived.Test.YtdbebebhldldmaaGreatDoorPk19
import Derived.Test.YtdbebebhldldmaaGreatDoorPk9
import Derived.Test.YtdbebebhldldmaaGreatDoorPk0
/- Contracts of package fint's functions, at every argument. -/
namespace Go.Proofs.YtdbebebhldldmaaGreatDoor
open Go.RowKit Go.ChangeShapes FbitPure FintPure
theorem notWhole_any (b : Nat) (hb : (b : Int) ≤ 18446744073709551615) (w : World) (hT : TabAt 4 Lib.deBruijn64tab w) :
    Calls Tryz.prog 136 #[.float .f64 b] w fun e w' => e = .returned (.int .i64 (wholeE b)) ∧ w = w' := by
  have HT := Lib.hid hT
  clear hT
  have hpb := part_bounds b
  rcases whole_cases b with ⟨h1, h2⟩ | ⟨h1, h2⟩ | ⟨h1, h2, h3⟩ | ⟨h1, h2, h3⟩
  · have r := Lib.hid h2
    clear h2 hpb
    go_enter Tryz.func136, Tryz.ntmps136
    go_wp2_with (first | (go_at_call 147; refine (kind_any _ hb _).mono ?_; rintro e w' ⟨rfl, rfl⟩))
    go_ret
    exact ⟨ret_i r.out.symm, rfl⟩
  · have r := Lib.hid h2
    clear h2 hpb
    go_enter Tryz.func136, Tryz.ntmps136
    go_wp2_with (first | (go_at_call 147; refine (kind_any _ hb _).mono ?_; rintro e w' ⟨rfl, rfl⟩))
    go_ret
    exact ⟨ret_i r.out.symm, rfl⟩
  · have r := Lib.hid h3
    have t0 : (kindN b == 0) = false := by simp; omega
    have t1 : (kindN b == 1) = false := by simp; omega
    clear h3 hpb
    go_enter Tryz.func136, Tryz.ntmps136
    go_wp2_with (first
      | (go_at_call 147; refine (kind_any _ hb _).mono ?_; rintro e w' ⟨rfl, rfl⟩)
      | (go_at_call 148; refine (parts_any _ hb _ HT.out).mono ?_; rintro e w' ⟨rfl, rfl⟩))
    go_ret
    exact ⟨ret_i r.out.symm, rfl⟩
  · have r := Lib.hid h3
    have t0 : (kindN b == 0) = false := by simp; omega
    have t1 : (kindN b == 1) = false := by simp; omega
    clear h3 hpb
    go_enter Tryz.func136, Tryz.ntmps136
    go_wp2_with (first
      | (go_at_call 147; refine (kind_any _ hb _).mono ?_; rintro e w' ⟨rfl, rfl⟩)
      | (go_at_call 148; refine (parts_any _ hb _ HT.out).mono ?_; rintro e w' ⟨rfl, rfl⟩))
    go_ret
    exact ⟨ret_i r.out.symm, rfl⟩
theorem wrong2_any (b : Nat) (hb : (b : Int) ≤ 18446744073709551615) (w : World) (hT : TabAt 4 Lib.deBruijn64tab w) :
    Calls Tryz.prog 118 #[.float .f64 b, .int .i64 2] w fun e w' => e = .returned (.int .i64 (wholeE b)) ∧ w = w' := by
  have HT := Lib.hid hT
  clear hT
  by_cases hw : wholeE b = 0
  · have HW := Lib.hid hw
    go_enter Tryz.func118, Tryz.ntmps118
    go_wp2_with (first
      | (go_at_call 136; refine (notWhole_any _ hb _ HT.out).mono ?_; rintro e w' ⟨rfl, rfl⟩))
    go_ret
    exact ⟨ret_i HW.out.symm, rfl⟩
  · have t : (wholeE b != 0) = true := by simp [hw]
    clear hw
    go_enter Tryz.func118, Tryz.ntmps118
    go_wp2_with (first
      | (go_at_call 136; refine (notWhole_any _ hb _ HT.out).mono ?_; rintro e w' ⟨rfl, rfl⟩))
    go_ret
    exact ⟨rfl, rfl⟩
theorem wrong1_any (b : Nat) (hb : (b : Int) ≤ 18446744073709551615) (w : World) (hT : TabAt 4 Lib.deBruijn64tab w) :
    Calls Tryz.prog 118 #[.float .f64 b, .int .i64 1] w fun e w' => e = .returned (.int .i64 (intE b)) ∧ w = w' := by
  have HT := Lib.hid hT
  clear hT
  have R := Lib.hid (int_tests b (by omega))
  cases c3 : (FloatKind.f64.format.order b 14114281232179134464 == some .lt) <;> cases c4 : (FloatKind.f64.format.order b 4890909195324358656 == some .gt) <;> cases c5 : (FloatKind.f64.format.order b 4890909195324358656 == some .eq)
  all_goals
    have R1 := R.out
    rw [c3, c4, c5] at R1
    by_cases hw : wholeE b = 0
    · rw [if_neg (by omega)] at R1
      have R2 := Lib.hid R1
      clear R1
      go_enter Tryz.func118, Tryz.ntmps118
      go_wp2_with (first
        | (go_at_call 136; refine (notWhole_any _ hb _ HT.out).mono ?_; rintro e w' ⟨rfl, rfl⟩))
      go_ret
      exact ⟨ret_i (by rw [R2.out]; decide), rfl⟩
    · rw [if_pos hw] at R1
      have R2 := Lib.hid R1
      have t : (wholeE b != 0) = true := by simp [hw]
      clear R1 hw
      go_enter Tryz.func118, Tryz.ntmps118
      go_wp2_with (first
        | (go_at_call 136; refine (notWhole_any _ hb _ HT.out).mono ?_; rintro e w' ⟨rfl, rfl⟩))
      go_ret
      exact ⟨ret_i R2.out.symm, rfl⟩
set_option maxHeartbeats 1000000 in
theorem wrong0_any (b : Nat) (hb : (b : Int) ≤ 18446744073709551615) (w : World) (hT : TabAt 4 Lib.deBruijn64tab w) :
    Calls Tryz.prog 118 #[.float .f64 b, .int .i64 0] w fun e w' => e = .returned (.int .i64 (weightE b)) ∧ w = w' := by
  have HT := Lib.hid hT
  clear hT
  have R := Lib.hid (weight_tests b (by omega))
  cases c1 : (FloatKind.f64.format.order b 0 == some .lt) <;> cases c2 : (FloatKind.f64.format.order b 4746794007248502784 == some .gt) <;> cases c3 : (FloatKind.f64.format.order b 14114281232179134464 == some .lt) <;> cases c4 : (FloatKind.f64.format.order b 4890909195324358656 == some .gt) <;> cases c5 : (FloatKind.f64.format.order b 4890909195324358656 == some .eq)
  all_goals
    have R1 := R.out
    rw [c1, c2, c3, c4, c5] at R1
    by_cases hw : wholeE b = 0
    · rw [if_neg (by omega)] at R1
      have R2 := Lib.hid R1
      clear R1
      go_enter Tryz.func118, Tryz.ntmps118
      go_wp2_with (first
        | (go_at_call 136; refine (notWhole_any _ hb _ HT.out).mono ?_; rintro e w' ⟨rfl, rfl⟩))
      go_ret
      exact ⟨ret_i (by rw [R2.out]; decide), rfl⟩
    · rw [if_pos hw] at R1
      have R2 := Lib.hid R1
      have t : (wholeE b != 0) = true := by simp [hw]
      clear R1 hw
      go_enter Tryz.func118, Tryz.ntmps118
      go_wp2_with (first
        | (go_at_call 136; refine (notWhole_any _ hb _ HT.out).mono ?_; rintro e w' ⟨rfl, rfl⟩))
      go_ret
      exact ⟨ret_i R2.out.symm, rfl⟩
theorem run_conv (b : Nat) (hb : b < 18446744073709551616) (h : intE b = 0) (w : World) : (convert 38 2 (.float .f64 b)).run Tryz.prog w = .ok (.int .i64 (valI b)) w :=
  run_convert_float_int w 38 2 .f64 .i64 b (valI b) (by rw [Tryz.underlying38]; rfl) Tryz.underlying2 (conv_val b hb h)
theorem number1_any (b : Nat) (hb : (b : Int) ≤ 18446744073709551615) (w : World) (hT : TabAt 4 Lib.deBruijn64tab w) :
    Calls Tryz.prog 91 #[.float .f64 b, .int .i64 1] w fun e w' => e = .returned (.tuple #[.int .i64 (intN b), .int .i64 (intE b)]) ∧ w = w' := by
  have HT := Lib.hid hT
  clear hT
  by_cases hw : intE b = 0
  · have HW := Lib.hid hw
    have hc := run_conv b (by omega) hw
    go_enter Tryz.func91, Tryz.ntmps91
    go_wp2_with (first
      | (go_at_call 118; refine (wrong1_any _ hb _ HT.out).mono ?_; rintro e w' ⟨rfl, rfl⟩))
    go_ret2
    exact ⟨ret_ii (show valI b = intN b from (if_pos HW.out).symm) HW.out.symm, rfl⟩
  · have t : (intE b != 0) = true := by simp [hw]
    have HW := Lib.hid hw
    clear hw
    go_enter Tryz.func91, Tryz.ntmps91
    go_wp2_with (first
      | (go_at_call 118; refine (wrong1_any _ hb _ HT.out).mono ?_; rintro e w' ⟨rfl, rfl⟩))
    go_ret2
    exact ⟨ret_ii (show 0 = intN b from (if_neg HW.out).symm) rfl, rfl⟩
theorem number0_any (b : Nat) (hb : (b : Int) ≤ 18446744073709551615) (w : World) (hT : TabAt 4 Lib.deBruijn64tab w) :
    Calls Tryz.prog 91 #[.float .f64 b, .int .i64 0] w fun e w' => e = .returned (.tuple #[.int .i64 (weightN b), .int .i64 (weightE b)]) ∧ w = w' := by
  have HT := Lib.hid hT
  clear hT
  by_cases hw : weightE b = 0
  · have HW := Lib.hid hw
    have hc := run_conv b (by omega) (weight_int hw)
    go_enter Tryz.func91, Tryz.ntmps91
    go_wp2_with (first
      | (go_at_call 118; refine (wrong0_any _ hb _ HT.out).mono ?_; rintro e w' ⟨rfl, rfl⟩))
    go_ret2
    exact ⟨ret_ii (show valI b = weightN b from (if_pos HW.out).symm) HW.out.symm, rfl⟩
  · have t : (weightE b != 0) = true := by simp [hw]
    have HW := Lib.hid hw
    clear hw
    go_enter Tryz.func91, Tryz.ntmps91
    go_wp2_with (first
      | (go_at_call 118; refine (wrong0_any _ hb _ HT.out).mono ?_; rintro e w' ⟨rfl, rfl⟩))
    go_ret2
    exact ⟨ret_ii (show 0 = weightN b from (if_neg HW.out).symm) rfl, rfl⟩
theorem fweight_any (b : Nat) (hb : (b : Int) ≤ 18446744073709551615) (w : World) (hT : TabAt 4 Lib.deBruijn64tab w) :
    Calls Tryz.prog 69 #[.float .f64 b] w fun e w' => e = .returned (.tuple #[.int .i64 (weightN b), .int .i64 (weightE b)]) ∧ w = w' := by
  have HT := Lib.hid hT
  clear hT
  go_enter Tryz.func69, Tryz.ntmps69
  go_wp2_with (first
    | (go_at_call 91; refine (number0_any _ hb _ HT.out).mono ?_; rintro e w' ⟨rfl, rfl⟩))
  go_ret2
  exact ⟨rfl, rfl⟩
end Go.Proofs.YtdbebebhldldmaaGreatDoor
/- Contracts of the document's own answers for layer 4. -/
namespace Go.Proofs.YtdbebebhldldmaaGreatDoor
open Go.RowKit Go.ChangeShapes FbitPure FintPure
theorem agg_ii {k l : IntKind} {c d m n : Int} (h2 : c = d) (h3 : m = n) : Ending.returned (.agg #[.int k c, .int l m]) = .returned (.agg #[.int k d, .int l n]) := by rw [h2, h3]
/-- What is told at the end of the document's Int, once its number's parts are there. -/
theorem refInt_end {w w1 : World} (u v : Int) (x : Obj) (HB : Hid (Below w.heap.size w w1)) (HR : Hid (TwoAt w.heap.size w1 (.int .i64 0) (.int .i64 0))) :
    TwoAt w.heap.size ((((w1.setCell ⟨w.heap.size, 0, none⟩ (.int .i64 u)).setCell ⟨w.heap.size, 1, none⟩ (.int .i64 v))).alloc x) (.int .i64 u) (.int .i64 v) ∧
    Below w.heap.size w ((((w1.setCell ⟨w.heap.size, 0, none⟩ (.int .i64 u)).setCell ⟨w.heap.size, 1, none⟩ (.int .i64 v))).alloc x) := by
  have HS := HR.out.set (.int .i64 u) (.int .i64 v)
  have hz := HR.out.lt
  exact ⟨HS.on ((Below.refl _ _).alloc (Nat.le_refl _) x) HS.lt, ((HB.out.setCell (p := ⟨w.heap.size, 0, none⟩) (Nat.le_refl _) _).setCell (p := ⟨w.heap.size, 1, none⟩) (Nat.le_refl _) _).alloc (by simp; omega) _⟩
set_option maxHeartbeats 1000000 in
theorem refInt_any (b : Nat) (hb : (b : Int) ≤ 18446744073709551615) (w : World) :
    Calls Tryz.prog 92 #[.int .u64 b] w fun e w' => e = .returned (.agg #[.int .i64 (intN b), .int .i64 (intE b)]) ∧ Below w.heap.size w w' := by
  rcases whole_cases b with ⟨h1, h2⟩ | ⟨h1, h2⟩ | ⟨h1, h2, h3⟩ | ⟨h1, h2, h3⟩
  · have r := Lib.hid (intE_of_whole (b := b) (by omega))
    have r2 := Lib.hid (show intN b = 0 from if_neg (by rw [r.out]; omega))
    have R := Lib.hid h2
    clear h2
    go_enter Tryz.func92, Tryz.ntmps92
    go_wp2_with (first | (go_at_call 119; refine (refKind_any _ hb _).mono ?_; rintro e w' ⟨rfl, rfl⟩))
    refine bodyPost_ret (v := .agg #[.int .i64 0, .int .i64 11]) (by simp [results, Tryz.results92, go_sem]) rfl ⟨agg_ii r2.out.symm (by rw [r.out, R.out]), (Below.refl _ _).alloc (Nat.le_refl _) _⟩
  · have r := Lib.hid (intE_of_whole (b := b) (by omega))
    have r2 := Lib.hid (show intN b = 0 from if_neg (by rw [r.out]; omega))
    have R := Lib.hid h2
    clear h2
    go_enter Tryz.func92, Tryz.ntmps92
    go_wp2_with (first | (go_at_call 119; refine (refKind_any _ hb _).mono ?_; rintro e w' ⟨rfl, rfl⟩))
    refine bodyPost_ret (v := .agg #[.int .i64 0, .int .i64 12]) (by simp [results, Tryz.results92, go_sem]) rfl ⟨agg_ii r2.out.symm (by rw [r.out, R.out]), (Below.refl _ _).alloc (Nat.le_refl _) _⟩
  · have r := Lib.hid (intE_of_whole (b := b) (by omega))
    have r2 := Lib.hid (show intN b = 0 from if_neg (by rw [r.out]; omega))
    have R := Lib.hid h3
    have t0 : (kindN b == 0) = false := by simp; omega
    have t1 : (kindN b == 1) = false := by simp; omega
    clear h3
    go_enter Tryz.func92, Tryz.ntmps92
    go_wp2_with (first | (go_at_call 119; refine (refKind_any _ hb _).mono ?_; rintro e w' ⟨rfl, rfl⟩) | fail)
    refine (refParts_any _ hb _).mono ?_
    rintro e w1 ⟨rfl, bel⟩
    have HB := Lib.hid (((Below.refl w.heap.size w).alloc (Nat.le_refl _) _).trans (bel.mono (by simp)))
    have HR := Lib.hid ((TwoAt.new w (.int .i64 0) (.int .i64 0) 130).on bel (by simp))
    obtain ⟨c0, c1, f0, f1⟩ := HR.out
    have hz := HR.out.lt
    clear bel
    go_wp2
    have HE := refInt_end 0 13 (.cells #[.int .u64 (partM b), .int .i64 (partE b), .bool (partOk b)] 189) HB HR
    obtain ⟨s0, s1, -, -⟩ := HE.1
    exact bodyPost_ret (v := .agg #[.int .i64 0, .int .i64 13]) (by simp [results, Tryz.results92, go_sem, s0, s1]) rfl ⟨agg_ii r2.out.symm (by rw [r.out, R.out]), HE.2⟩
  · have HW := Lib.hid h3
    have t0 : (kindN b == 0) = false := by simp; omega
    have t1 : (kindN b == 1) = false := by simp; omega
    have pb := part_bounds b
    have hneg := neg_top b h1
    obtain ⟨p1, p2, p3⟩ := pb
    have HP0 := Lib.hid (part_pos b)
    have H0 := Lib.hid (DblRel.start b)
    clear h3
    go_enter Tryz.func92, Tryz.ntmps92
    go_wp2_with (first | (go_at_call 119; refine (refKind_any _ hb _).mono ?_; rintro e w' ⟨rfl, rfl⟩) | fail)
    refine (refParts_any _ hb _).mono ?_
    rintro e w1 ⟨rfl, bel⟩
    have HB := Lib.hid (((Below.refl w.heap.size w).alloc (Nat.le_refl _) _).trans (bel.mono (by simp)))
    have HR := Lib.hid ((TwoAt.new w (.int .i64 0) (.int .i64 0) 130).on bel (by simp))
    obtain ⟨c0, c1, f0, f1⟩ := HR.out
    have hz := HR.out.lt
    clear bel
    go_wp2
    go_loop [4, 5] (fun n i => ∃ (z : Int) (i' : Nat), Hid (∃ n' : Nat, z = (n' : Int) ∧ DblRel b n' i') ∧ n = .int .u64 z ∧ i = .int .i64 (i' : Int)) (fun _ i => (partE b).toNat - (intOf i).toNat)
    case atStart => exact ⟨_, _, Lib.hid ⟨_, rfl, H0.out⟩, rfl, rfl⟩
    case round =>
      obtain ⟨z, i, HD0, rfl, rfl⟩ := hrel
      obtain ⟨n, hzn, HD1⟩ := HD0.out
      have HD := Lib.hid HD1
      have hn := HD.out.2.2
      have hi := HD.out.2.1
      have hn1 : 0 ≤ z := by omega
      have hn2 : z ≤ 18446744073709551615 := by omega
      have HZ := Lib.hid hzn
      clear HD0 HD1 hzn hn
      by_cases hlt : i < (partE b).toNat
      · have hlt' : (i : Int) < partE b := by omega
        have hm : (0 : Int) < partM b := by have := HP0.out (by omega); omega
        by_cases hb3 : 9223372036854775808 ≤ z
        · have r := Lib.hid (HD.out.big HW.out hlt (by have := HZ.out; omega))
          go_wp2
          have HE := refInt_end 0 10 (.cells #[.int .u64 (partM b), .int .i64 (partE b), .bool (partOk b)] 189) HB HR
          obtain ⟨s0, s1, -, -⟩ := HE.1
          exact bodyPost_ret (v := .agg #[.int .i64 0, .int .i64 10]) (by simp [results, Tryz.results92, go_sem, s0, s1]) rfl ⟨agg_ii r.out.2.symm r.out.1.symm, HE.2⟩
        · have HN := Lib.hid (HD.out.step hlt (by have := HZ.out; omega))
          go_wp2
          go_round
          case rel => exact ⟨z * 2, i + 1, Lib.hid ⟨n * 2, by have := HZ.out; omega, HN.out⟩, rfl, by go_num⟩
          case measure => simp [intOf]; omega
      · have hd := Lib.hid (HD.out.done (by omega))
        have hge : ¬ (i : Int) < partE b := by omega
        cases ht : topB b
        · rw [ht] at hneg
          by_cases hb3 : 9223372036854775808 ≤ z
          · have r := Lib.hid (pos_big HW.out ht (by rw [← hd.out]; have := HZ.out; omega))
            go_wp2_with (first | (go_at_call 121; refine (refNeg_any _ hb _).mono ?_; rintro e w' ⟨rfl, rfl⟩))
            have HE := refInt_end 0 10 (.cells #[.int .u64 (partM b), .int .i64 (partE b), .bool (partOk b)] 189) HB HR
            obtain ⟨s0, s1, -, -⟩ := HE.1
            exact bodyPost_ret (v := .agg #[.int .i64 0, .int .i64 10]) (by simp [results, Tryz.results92, go_sem, s0, s1]) rfl ⟨agg_ii r.out.2.symm r.out.1.symm, HE.2⟩
          · have r := Lib.hid (pos_ok HW.out ht (by rw [← hd.out]; have := HZ.out; omega))
            go_wp2_with (first | (go_at_call 121; refine (refNeg_any _ hb _).mono ?_; rintro e w' ⟨rfl, rfl⟩))
            have HE := refInt_end z 0 (.cells #[.int .u64 (partM b), .int .i64 (partE b), .bool (partOk b)] 189) HB HR
            obtain ⟨s0, s1, -, -⟩ := HE.1
            exact bodyPost_ret (v := .agg #[.int .i64 z, .int .i64 0]) (by simp [results, Tryz.results92, go_sem, s0, s1]) rfl ⟨agg_ii (by rw [r.out.2, ← hd.out, HZ.out]) r.out.1.symm, HE.2⟩
        · rw [ht] at hneg
          by_cases hb3 : 9223372036854775808 < z
          · have r := Lib.hid (neg_big HW.out ht (by rw [← hd.out]; have := HZ.out; omega))
            go_wp2_with (first | (go_at_call 121; refine (refNeg_any _ hb _).mono ?_; rintro e w' ⟨rfl, rfl⟩))
            have HE := refInt_end 0 10 (.cells #[.int .u64 (partM b), .int .i64 (partE b), .bool (partOk b)] 189) HB HR
            obtain ⟨s0, s1, -, -⟩ := HE.1
            exact bodyPost_ret (v := .agg #[.int .i64 0, .int .i64 10]) (by simp [results, Tryz.results92, go_sem, s0, s1]) rfl ⟨agg_ii r.out.2.symm r.out.1.symm, HE.2⟩
          · have r := Lib.hid (neg_ok HW.out ht (by rw [← hd.out]; have := HZ.out; omega))
            have hwn : wrap64 (-wrap64 z) = -z := by unfold wrap64; omega
            go_wp2_with (first | (go_at_call 121; refine (refNeg_any _ hb _).mono ?_; rintro e w' ⟨rfl, rfl⟩))
            have HE := refInt_end (-z) 0 (.cells #[.int .u64 (partM b), .int .i64 (partE b), .bool (partOk b)] 189) HB HR
            obtain ⟨s0, s1, -, -⟩ := HE.1
            exact bodyPost_ret (v := .agg #[.int .i64 (-z), .int .i64 0]) (by simp [results, Tryz.results92, go_sem, s0, s1]) rfl ⟨agg_ii (by rw [r.out.2, ← hd.out, HZ.out]) r.out.1.symm, HE.2⟩
theorem refFWeight_any (b : Nat) (hb : (b : Int) ≤ 18446744073709551615) (w : World) :
    Calls Tryz.prog 71 #[.int .u64 b] w fun e w' => e = .returned (.agg #[.int .i64 (weightN b), .int .i64 (weightE b)]) ∧ Below w.heap.size w w' := by
  have hr := intN_rng b
  obtain ⟨r1, r2⟩ := hr
  rcases weight_cases b with ⟨h1, h2, h3, h4⟩ | ⟨h1, h2, h3, h4⟩ | ⟨h1, h2, h3, h4⟩ | ⟨h1, h2, h5, h3, h4⟩
  · have RE := Lib.hid h3
    have RN := Lib.hid h4
    have t : (intE b == 0) = false := by simp [h1]
    have H2 := Lib.hid h2
    clear h1 h2 h3 h4 r1 r2
    go_enter Tryz.func71, Tryz.ntmps71
    go_wp2_with fail
    refine (refInt_any _ hb _).mono ?_
    rintro e w1 ⟨rfl, bel⟩
    have HB := Lib.hid (((Below.refl w.heap.size w).alloc (Nat.le_refl _) _).trans (bel.mono (by simp)))
    have HR := Lib.hid ((TwoAt.new w (.int .i64 0) (.int .i64 0) 130).on bel (by simp))
    obtain ⟨c0, c1, f0, f1⟩ := HR.out
    have hz := HR.out.lt
    clear bel
    go_wp2
    have HE := refInt_end (intN b) (intE b) (.cells #[.int .i64 (intN b), .int .i64 (intE b)] 130) HB HR
    obtain ⟨s0, s1, -, -⟩ := HE.1
    exact bodyPost_ret (v := .agg #[.int .i64 (intN b), .int .i64 (intE b)]) (by simp [results, Tryz.results71, go_sem, s0, s1]) rfl ⟨agg_ii (by rw [RN.out, H2.out]) RE.out.symm, HE.2⟩
  · have RE := Lib.hid h3
    have RN := Lib.hid h4
    have t : (intE b == 0) = true := by simp [h1]
    clear h1 h3 h4 r1 r2
    go_enter Tryz.func71, Tryz.ntmps71
    go_wp2_with fail
    refine (refInt_any _ hb _).mono ?_
    rintro e w1 ⟨rfl, bel⟩
    have HB := Lib.hid (((Below.refl w.heap.size w).alloc (Nat.le_refl _) _).trans (bel.mono (by simp)))
    have HR := Lib.hid ((TwoAt.new w (.int .i64 0) (.int .i64 0) 130).on bel (by simp))
    obtain ⟨c0, c1, f0, f1⟩ := HR.out
    have hz := HR.out.lt
    clear bel
    go_wp2
    have HE := refInt_end (0) (5) (.cells #[.int .i64 (intN b), .int .i64 (intE b)] 130) HB HR
    obtain ⟨s0, s1, -, -⟩ := HE.1
    exact bodyPost_ret (v := .agg #[.int .i64 (0), .int .i64 (5)]) (by simp [results, Tryz.results71, go_sem, s0, s1]) rfl ⟨agg_ii RN.out.symm RE.out.symm, HE.2⟩
  · have RE := Lib.hid h3
    have RN := Lib.hid h4
    have t : (intE b == 0) = true := by simp [h1]
    have h2' : ¬ intN b < 0 := by omega
    clear h1 h3 h4 r1 r2
    go_enter Tryz.func71, Tryz.ntmps71
    go_wp2_with fail
    refine (refInt_any _ hb _).mono ?_
    rintro e w1 ⟨rfl, bel⟩
    have HB := Lib.hid (((Below.refl w.heap.size w).alloc (Nat.le_refl _) _).trans (bel.mono (by simp)))
    have HR := Lib.hid ((TwoAt.new w (.int .i64 0) (.int .i64 0) 130).on bel (by simp))
    obtain ⟨c0, c1, f0, f1⟩ := HR.out
    have hz := HR.out.lt
    clear bel
    go_wp2
    have HE := refInt_end (0) (5) (.cells #[.int .i64 (intN b), .int .i64 (intE b)] 130) HB HR
    obtain ⟨s0, s1, -, -⟩ := HE.1
    exact bodyPost_ret (v := .agg #[.int .i64 (0), .int .i64 (5)]) (by simp [results, Tryz.results71, go_sem, s0, s1]) rfl ⟨agg_ii RN.out.symm RE.out.symm, HE.2⟩
  · have RE := Lib.hid h3
    have RN := Lib.hid h4
    have t : (intE b == 0) = true := by simp [h1]
    have H1 := Lib.hid h1
    have h2' : ¬ intN b < 0 := by omega
    have h5' : ¬ 2147483648 < intN b := by omega
    clear h1 h3 h4 r1 r2
    go_enter Tryz.func71, Tryz.ntmps71
    go_wp2_with fail
    refine (refInt_any _ hb _).mono ?_
    rintro e w1 ⟨rfl, bel⟩
    have HB := Lib.hid (((Below.refl w.heap.size w).alloc (Nat.le_refl _) _).trans (bel.mono (by simp)))
    have HR := Lib.hid ((TwoAt.new w (.int .i64 0) (.int .i64 0) 130).on bel (by simp))
    obtain ⟨c0, c1, f0, f1⟩ := HR.out
    have hz := HR.out.lt
    clear bel
    go_wp2
    have HE := refInt_end (intN b) (intE b) (.cells #[.int .i64 (intN b), .int .i64 (intE b)] 130) HB HR
    obtain ⟨s0, s1, -, -⟩ := HE.1
    exact bodyPost_ret (v := .agg #[.int .i64 (intN b), .int .i64 (intE b)]) (by simp [results, Tryz.results71, go_sem, s0, s1]) rfl ⟨agg_ii RN.out.symm (by rw [RE.out, H1.out]), HE.2⟩
theorem two_end {N : Nat} {w w1 : World} {a b : Value} (u v : Value) (HB : Hid (Below N w w1)) (HR : Hid (TwoAt N w1 a b)) :
    TwoAt N ((w1.setCell ⟨N, 0, none⟩ u).setCell ⟨N, 1, none⟩ v) u v ∧ Below N w ((w1.setCell ⟨N, 0, none⟩ u).setCell ⟨N, 1, none⟩ v) :=
  ⟨HR.out.set u v, (HB.out.setCell (p := ⟨N, 0, none⟩) (Nat.le_refl _) _).setCell (p := ⟨N, 1, none⟩) (Nat.le_refl _) _⟩
theorem int_m3 : intN 13837309855095848960 = -3 ∧ intE 13837309855095848960 = 0 := by decide +kernel
theorem int_half : intN 4602678819172646912 = 0 ∧ intE 4602678819172646912 = 13 := by decide +kernel
theorem weight_7 : weightN 4619567317775286272 = 7 ∧ weightE 4619567317775286272 = 0 := by decide +kernel
theorem weight7_any (w : World) (hT : TabAt 4 Lib.deBruijn64tab w) :
    Calls Tryz.prog 69 #[.float .f64 4619567317775286272] w fun e w' => e = .returned (.tuple #[.int .i64 7, .int .i64 0]) ∧ w = w' :=
  (fweight_any 4619567317775286272 (by decide) w hT).mono fun _ _ ⟨h1, h2⟩ => ⟨by rw [h1, weight_7.1, weight_7.2], h2⟩
end Go.Proofs.YtdbebebhldldmaaGreatDoor
/- How floats, their bits and their weights lie in memory; the first that is no weight. -/
namespace Go.Proofs.YtdbebebhldldmaaGreatDoor
open Go.RowKit Go.ChangeShapes FbitPure FintPure
def encF (n : Nat) : Value := .float .f64 n
def encU (n : Nat) : Value := .int .u64 (n : Int)
def encW (n : Nat) : Value := .int .i64 (weightN n)
/-- K is the first place in l of a float that is no weight, or l's length. -/
structure FirstBad (l : List Nat) (K : Nat) : Prop where
  le : K ≤ l.length
  good : ∀ j (h : j < l.length), j < K → weightE l[j] = 0
  bad : ∀ h : K < l.length, weightE l[K] ≠ 0
theorem first_bad (l : List Nat) : ∃ K, FirstBad l K := by
  induction l with
  | nil => exact ⟨0, by simp, fun j h => by simp at h, fun h => by simp at h⟩
  | cons x t ih =>
    obtain ⟨K, h1, h2, h3⟩ := ih
    by_cases hx : weightE x = 0
    · refine ⟨K + 1, by simp; omega, fun j hj hk => ?_, fun h => by simpa using h3 (by simpa using h)⟩
      cases j with
      | zero => exact hx
      | succ j => exact h2 j (by simpa using hj) (by omega)
    · exact ⟨0, by simp, fun j _ hk => by omega, fun _ => hx⟩
def WideL (l : List Nat) : Prop := ∀ i (h : i < l.length), (l[i] : Int) ≤ 18446744073709551615
end Go.Proofs.YtdbebebhldldmaaGreatDoor
