/- Contracts of the document's own answers for layer 4. -/
import Derived.Test.YtmagdmjccljkiaaDoorFbitRef
import Derived.Test.YtmagdmjccljkiaaDoorFintCode
import Derived.Test.YtmagdmjccljkiaaDoorCells
namespace Go.Proofs.YtmagdmjccljkiaaDoor
open Go.RowKit Go.ChangeShapes FbitPure FintPure
theorem agg_ii {k l : IntKind} {c d m n : Int} (h2 : c = d) (h3 : m = n) : Ending.returned (.agg #[.int k c, .int l m]) = .returned (.agg #[.int k d, .int l n]) := by rw [h2, h3]
/-- What is told at the end of the document's Int, once its number's parts are there. -/
theorem refInt_end {w w1 : World} (u v : Int) (x : Obj) (HB : Hid (Below w.heap.size w w1)) (HR : Hid (TwoAt w.heap.size w1 (.int .i64 0) (.int .i64 0))) :
    TwoAt w.heap.size ((((w1.setCell ⟨w.heap.size, 0, none⟩ (.int .i64 u)).setCell ⟨w.heap.size, 1, none⟩ (.int .i64 v))).alloc x) (.int .i64 u) (.int .i64 v) ∧
    Below w.heap.size w ((((w1.setCell ⟨w.heap.size, 0, none⟩ (.int .i64 u)).setCell ⟨w.heap.size, 1, none⟩ (.int .i64 v))).alloc x) := by
  have HS := HR.out.set (.int .i64 u) (.int .i64 v)
  have hz := HR.out.lt
  exact ⟨HS.on ((Below.refl _ _).alloc (Nat.le_refl _) x) HS.lt, ((HB.out.setCell (p := ⟨w.heap.size, 0, none⟩) (Nat.le_refl _) _).setCell (p := ⟨w.heap.size, 1, none⟩) (Nat.le_refl _) _).alloc (by simp; omega) _⟩
set_option maxHeartbeats 1000000 in
theorem refInt_any (b : Nat) (hb : (b : Int) ≤ 18446744073709551615) (w : World) :
    Calls Tryd.prog 10 #[.int .u64 b] w fun e w' => e = .returned (.agg #[.int .i64 (intN b), .int .i64 (intE b)]) ∧ Below w.heap.size w w' := by
  rcases whole_cases b with ⟨h1, h2⟩ | ⟨h1, h2⟩ | ⟨h1, h2, h3⟩ | ⟨h1, h2, h3⟩
  · have r := Lib.hid (intE_of_whole (b := b) (by omega))
    have r2 := Lib.hid (show intN b = 0 from if_neg (by rw [r.out]; omega))
    have R := Lib.hid h2
    clear h2
    go_enter Tryd.func10, Tryd.ntmps10
    go_wp2_with (first | (go_at_call 24; refine (refKind_any _ hb _).mono ?_; rintro e w' ⟨rfl, rfl⟩))
    refine bodyPost_ret (v := .agg #[.int .i64 0, .int .i64 11]) (by simp [results, Tryd.results10, go_sem]) rfl ⟨agg_ii r2.out.symm (by rw [r.out, R.out]), (Below.refl _ _).alloc (Nat.le_refl _) _⟩
  · have r := Lib.hid (intE_of_whole (b := b) (by omega))
    have r2 := Lib.hid (show intN b = 0 from if_neg (by rw [r.out]; omega))
    have R := Lib.hid h2
    clear h2
    go_enter Tryd.func10, Tryd.ntmps10
    go_wp2_with (first | (go_at_call 24; refine (refKind_any _ hb _).mono ?_; rintro e w' ⟨rfl, rfl⟩))
    refine bodyPost_ret (v := .agg #[.int .i64 0, .int .i64 12]) (by simp [results, Tryd.results10, go_sem]) rfl ⟨agg_ii r2.out.symm (by rw [r.out, R.out]), (Below.refl _ _).alloc (Nat.le_refl _) _⟩
  · have r := Lib.hid (intE_of_whole (b := b) (by omega))
    have r2 := Lib.hid (show intN b = 0 from if_neg (by rw [r.out]; omega))
    have R := Lib.hid h3
    have t0 : (kindN b == 0) = false := by simp; omega
    have t1 : (kindN b == 1) = false := by simp; omega
    clear h3
    go_enter Tryd.func10, Tryd.ntmps10
    go_wp2_with (first | (go_at_call 24; refine (refKind_any _ hb _).mono ?_; rintro e w' ⟨rfl, rfl⟩) | fail)
    refine (refParts_any _ hb _).mono ?_
    rintro e w1 ⟨rfl, bel⟩
    have HB := Lib.hid (((Below.refl w.heap.size w).alloc (Nat.le_refl _) _).trans (bel.mono (by simp)))
    have HR := Lib.hid ((TwoAt.new w (.int .i64 0) (.int .i64 0) 31).on bel (by simp))
    obtain ⟨c0, c1, f0, f1⟩ := HR.out
    have hz := HR.out.lt
    clear bel
    go_wp2
    have HE := refInt_end 0 13 (.cells #[.int .u64 (partM b), .int .i64 (partE b), .bool (partOk b)] 57) HB HR
    obtain ⟨s0, s1, -, -⟩ := HE.1
    exact bodyPost_ret (v := .agg #[.int .i64 0, .int .i64 13]) (by simp [results, Tryd.results10, go_sem, s0, s1]) rfl ⟨agg_ii r2.out.symm (by rw [r.out, R.out]), HE.2⟩
  · have HW := Lib.hid h3
    have t0 : (kindN b == 0) = false := by simp; omega
    have t1 : (kindN b == 1) = false := by simp; omega
    have pb := part_bounds b
    have hneg := neg_top b h1
    obtain ⟨p1, p2, p3⟩ := pb
    have HP0 := Lib.hid (part_pos b)
    have H0 := Lib.hid (DblRel.start b)
    clear h3
    go_enter Tryd.func10, Tryd.ntmps10
    go_wp2_with (first | (go_at_call 24; refine (refKind_any _ hb _).mono ?_; rintro e w' ⟨rfl, rfl⟩) | fail)
    refine (refParts_any _ hb _).mono ?_
    rintro e w1 ⟨rfl, bel⟩
    have HB := Lib.hid (((Below.refl w.heap.size w).alloc (Nat.le_refl _) _).trans (bel.mono (by simp)))
    have HR := Lib.hid ((TwoAt.new w (.int .i64 0) (.int .i64 0) 31).on bel (by simp))
    obtain ⟨c0, c1, f0, f1⟩ := HR.out
    have hz := HR.out.lt
    clear bel
    go_wp2
    go_loop [4, 5] (fun n i => ∃ (z : Int) (i' : Nat), Hid (∃ n' : Nat, z = (n' : Int) ∧ DblRel b n' i') ∧ n = .int .u64 z ∧ i = .int .i64 (i' : Int)) (fun _ i => (partE b).toNat - (intOf i).toNat)
    case atStart => exact ⟨_, _, Lib.hid ⟨_, rfl, H0.out⟩, rfl, rfl⟩
    case round =>
      obtain ⟨z, i, HD0, rfl, rfl⟩ := hrel
      obtain ⟨n, hzn, HD1⟩ := HD0.out
      have HD := Lib.hid HD1
      have hn := HD.out.2.2
      have hi := HD.out.2.1
      have hn1 : 0 ≤ z := by omega
      have hn2 : z ≤ 18446744073709551615 := by omega
      have HZ := Lib.hid hzn
      clear HD0 HD1 hzn hn
      by_cases hlt : i < (partE b).toNat
      · have hlt' : (i : Int) < partE b := by omega
        have hm : (0 : Int) < partM b := by have := HP0.out (by omega); omega
        by_cases hb3 : 9223372036854775808 ≤ z
        · have r := Lib.hid (HD.out.big HW.out hlt (by have := HZ.out; omega))
          go_wp2
          have HE := refInt_end 0 10 (.cells #[.int .u64 (partM b), .int .i64 (partE b), .bool (partOk b)] 57) HB HR
          obtain ⟨s0, s1, -, -⟩ := HE.1
          exact bodyPost_ret (v := .agg #[.int .i64 0, .int .i64 10]) (by simp [results, Tryd.results10, go_sem, s0, s1]) rfl ⟨agg_ii r.out.2.symm r.out.1.symm, HE.2⟩
        · have HN := Lib.hid (HD.out.step hlt (by have := HZ.out; omega))
          go_wp2
          go_round
          case rel => exact ⟨z * 2, i + 1, Lib.hid ⟨n * 2, by have := HZ.out; omega, HN.out⟩, rfl, by go_num⟩
          case measure => simp [intOf]; omega
      · have hd := Lib.hid (HD.out.done (by omega))
        have hge : ¬ (i : Int) < partE b := by omega
        cases ht : topB b
        · rw [ht] at hneg
          by_cases hb3 : 9223372036854775808 ≤ z
          · have r := Lib.hid (pos_big HW.out ht (by rw [← hd.out]; have := HZ.out; omega))
            go_wp2_with (first | (go_at_call 26; refine (refNeg_any _ hb _).mono ?_; rintro e w' ⟨rfl, rfl⟩))
            have HE := refInt_end 0 10 (.cells #[.int .u64 (partM b), .int .i64 (partE b), .bool (partOk b)] 57) HB HR
            obtain ⟨s0, s1, -, -⟩ := HE.1
            exact bodyPost_ret (v := .agg #[.int .i64 0, .int .i64 10]) (by simp [results, Tryd.results10, go_sem, s0, s1]) rfl ⟨agg_ii r.out.2.symm r.out.1.symm, HE.2⟩
          · have r := Lib.hid (pos_ok HW.out ht (by rw [← hd.out]; have := HZ.out; omega))
            go_wp2_with (first | (go_at_call 26; refine (refNeg_any _ hb _).mono ?_; rintro e w' ⟨rfl, rfl⟩))
            have HE := refInt_end z 0 (.cells #[.int .u64 (partM b), .int .i64 (partE b), .bool (partOk b)] 57) HB HR
            obtain ⟨s0, s1, -, -⟩ := HE.1
            exact bodyPost_ret (v := .agg #[.int .i64 z, .int .i64 0]) (by simp [results, Tryd.results10, go_sem, s0, s1]) rfl ⟨agg_ii (by rw [r.out.2, ← hd.out, HZ.out]) r.out.1.symm, HE.2⟩
        · rw [ht] at hneg
          by_cases hb3 : 9223372036854775808 < z
          · have r := Lib.hid (neg_big HW.out ht (by rw [← hd.out]; have := HZ.out; omega))
            go_wp2_with (first | (go_at_call 26; refine (refNeg_any _ hb _).mono ?_; rintro e w' ⟨rfl, rfl⟩))
            have HE := refInt_end 0 10 (.cells #[.int .u64 (partM b), .int .i64 (partE b), .bool (partOk b)] 57) HB HR
            obtain ⟨s0, s1, -, -⟩ := HE.1
            exact bodyPost_ret (v := .agg #[.int .i64 0, .int .i64 10]) (by simp [results, Tryd.results10, go_sem, s0, s1]) rfl ⟨agg_ii r.out.2.symm r.out.1.symm, HE.2⟩
          · have r := Lib.hid (neg_ok HW.out ht (by rw [← hd.out]; have := HZ.out; omega))
            have hwn : wrap64 (-wrap64 z) = -z := by unfold wrap64; omega
            go_wp2_with (first | (go_at_call 26; refine (refNeg_any _ hb _).mono ?_; rintro e w' ⟨rfl, rfl⟩))
            have HE := refInt_end (-z) 0 (.cells #[.int .u64 (partM b), .int .i64 (partE b), .bool (partOk b)] 57) HB HR
            obtain ⟨s0, s1, -, -⟩ := HE.1
            exact bodyPost_ret (v := .agg #[.int .i64 (-z), .int .i64 0]) (by simp [results, Tryd.results10, go_sem, s0, s1]) rfl ⟨agg_ii (by rw [r.out.2, ← hd.out, HZ.out]) r.out.1.symm, HE.2⟩
theorem refWeight_any (b : Nat) (hb : (b : Int) ≤ 18446744073709551615) (w : World) :
    Calls Tryd.prog 12 #[.int .u64 b] w fun e w' => e = .returned (.agg #[.int .i64 (weightN b), .int .i64 (weightE b)]) ∧ Below w.heap.size w w' := by
  have hr := intN_rng b
  obtain ⟨r1, r2⟩ := hr
  rcases weight_cases b with ⟨h1, h2, h3, h4⟩ | ⟨h1, h2, h3, h4⟩ | ⟨h1, h2, h3, h4⟩ | ⟨h1, h2, h5, h3, h4⟩
  · have RE := Lib.hid h3
    have RN := Lib.hid h4
    have t : (intE b == 0) = false := by simp [h1]
    have H2 := Lib.hid h2
    clear h1 h2 h3 h4 r1 r2
    go_enter Tryd.func12, Tryd.ntmps12
    go_wp2_with fail
    refine (refInt_any _ hb _).mono ?_
    rintro e w1 ⟨rfl, bel⟩
    have HB := Lib.hid (((Below.refl w.heap.size w).alloc (Nat.le_refl _) _).trans (bel.mono (by simp)))
    have HR := Lib.hid ((TwoAt.new w (.int .i64 0) (.int .i64 0) 31).on bel (by simp))
    obtain ⟨c0, c1, f0, f1⟩ := HR.out
    have hz := HR.out.lt
    clear bel
    go_wp2
    have HE := refInt_end (intN b) (intE b) (.cells #[.int .i64 (intN b), .int .i64 (intE b)] 31) HB HR
    obtain ⟨s0, s1, -, -⟩ := HE.1
    exact bodyPost_ret (v := .agg #[.int .i64 (intN b), .int .i64 (intE b)]) (by simp [results, Tryd.results12, go_sem, s0, s1]) rfl ⟨agg_ii (by rw [RN.out, H2.out]) RE.out.symm, HE.2⟩
  · have RE := Lib.hid h3
    have RN := Lib.hid h4
    have t : (intE b == 0) = true := by simp [h1]
    clear h1 h3 h4 r1 r2
    go_enter Tryd.func12, Tryd.ntmps12
    go_wp2_with fail
    refine (refInt_any _ hb _).mono ?_
    rintro e w1 ⟨rfl, bel⟩
    have HB := Lib.hid (((Below.refl w.heap.size w).alloc (Nat.le_refl _) _).trans (bel.mono (by simp)))
    have HR := Lib.hid ((TwoAt.new w (.int .i64 0) (.int .i64 0) 31).on bel (by simp))
    obtain ⟨c0, c1, f0, f1⟩ := HR.out
    have hz := HR.out.lt
    clear bel
    go_wp2
    have HE := refInt_end (0) (5) (.cells #[.int .i64 (intN b), .int .i64 (intE b)] 31) HB HR
    obtain ⟨s0, s1, -, -⟩ := HE.1
    exact bodyPost_ret (v := .agg #[.int .i64 (0), .int .i64 (5)]) (by simp [results, Tryd.results12, go_sem, s0, s1]) rfl ⟨agg_ii RN.out.symm RE.out.symm, HE.2⟩
  · have RE := Lib.hid h3
    have RN := Lib.hid h4
    have t : (intE b == 0) = true := by simp [h1]
    have h2' : ¬ intN b < 0 := by omega
    clear h1 h3 h4 r1 r2
    go_enter Tryd.func12, Tryd.ntmps12
    go_wp2_with fail
    refine (refInt_any _ hb _).mono ?_
    rintro e w1 ⟨rfl, bel⟩
    have HB := Lib.hid (((Below.refl w.heap.size w).alloc (Nat.le_refl _) _).trans (bel.mono (by simp)))
    have HR := Lib.hid ((TwoAt.new w (.int .i64 0) (.int .i64 0) 31).on bel (by simp))
    obtain ⟨c0, c1, f0, f1⟩ := HR.out
    have hz := HR.out.lt
    clear bel
    go_wp2
    have HE := refInt_end (0) (5) (.cells #[.int .i64 (intN b), .int .i64 (intE b)] 31) HB HR
    obtain ⟨s0, s1, -, -⟩ := HE.1
    exact bodyPost_ret (v := .agg #[.int .i64 (0), .int .i64 (5)]) (by simp [results, Tryd.results12, go_sem, s0, s1]) rfl ⟨agg_ii RN.out.symm RE.out.symm, HE.2⟩
  · have RE := Lib.hid h3
    have RN := Lib.hid h4
    have t : (intE b == 0) = true := by simp [h1]
    have H1 := Lib.hid h1
    have h2' : ¬ intN b < 0 := by omega
    have h5' : ¬ 2147483648 < intN b := by omega
    clear h1 h3 h4 r1 r2
    go_enter Tryd.func12, Tryd.ntmps12
    go_wp2_with fail
    refine (refInt_any _ hb _).mono ?_
    rintro e w1 ⟨rfl, bel⟩
    have HB := Lib.hid (((Below.refl w.heap.size w).alloc (Nat.le_refl _) _).trans (bel.mono (by simp)))
    have HR := Lib.hid ((TwoAt.new w (.int .i64 0) (.int .i64 0) 31).on bel (by simp))
    obtain ⟨c0, c1, f0, f1⟩ := HR.out
    have hz := HR.out.lt
    clear bel
    go_wp2
    have HE := refInt_end (intN b) (intE b) (.cells #[.int .i64 (intN b), .int .i64 (intE b)] 31) HB HR
    obtain ⟨s0, s1, -, -⟩ := HE.1
    exact bodyPost_ret (v := .agg #[.int .i64 (intN b), .int .i64 (intE b)]) (by simp [results, Tryd.results12, go_sem, s0, s1]) rfl ⟨agg_ii RN.out.symm (by rw [RE.out, H1.out]), HE.2⟩
theorem refMake_int (neg : Bool) (z : Int) (m : Nat) (hz : z = m) (hm : m < 18446744073709551616) (w : World) :
    Calls Tryd.prog 27 #[.bool neg, .int .u64 z, .int .i64 0] w fun en w' => en = .returned (.agg #[.int .u64 (makeW neg m 0 : Int), .bool (makeOk m 0)]) ∧ Below w.heap.size w w' := by
  subst hz
  exact refMake_any neg m 0 hm (by omega) (by omega) w
theorem two_end {N : Nat} {w w1 : World} {a b : Value} (u v : Value) (HB : Hid (Below N w w1)) (HR : Hid (TwoAt N w1 a b)) :
    TwoAt N ((w1.setCell ⟨N, 0, none⟩ u).setCell ⟨N, 1, none⟩ v) u v ∧ Below N w ((w1.setCell ⟨N, 0, none⟩ u).setCell ⟨N, 1, none⟩ v) :=
  ⟨HR.out.set u v, (HB.out.setCell (p := ⟨N, 0, none⟩) (Nat.le_refl _) _).setCell (p := ⟨N, 1, none⟩) (Nat.le_refl _) _⟩
theorem refFloat_any (n : Int) (h1 : -9223372036854775808 ≤ n) (h2 : n ≤ 9223372036854775807) (w : World) :
    Calls Tryd.prog 11 #[.int .i64 n] w fun e w' => e = .returned (.agg #[.int .u64 (makeW (decide (n < 0)) n.natAbs 0 : Int), .bool (makeOk n.natAbs 0)]) ∧ Below w.heap.size w w' := by
  have hn : n.natAbs < 18446744073709551616 := by omega
  by_cases h : n < 0
  · have HD := Lib.hid (decide_eq_true h)
    go_enter Tryd.func11, Tryd.ntmps11
    go_wp2_with fail
    refine (refMake_int true _ n.natAbs (by omega) hn _).mono ?_
    rintro e w1 ⟨rfl, bel⟩
    have HB := Lib.hid (((Below.refl w.heap.size w).alloc (Nat.le_refl _) _).trans (bel.mono (by simp)))
    have HR := Lib.hid ((TwoAt.new w (.int .u64 0) (.bool false) 34).on bel (by simp))
    obtain ⟨c0, c1, f0, f1⟩ := HR.out
    have hz := HR.out.lt
    clear bel
    go_wp2
    have HE := two_end (.int .u64 (makeW true n.natAbs 0 : Int)) (.bool (makeOk n.natAbs 0)) HB HR
    obtain ⟨s0, s1, -, -⟩ := HE.1
    exact bodyPost_ret (v := .agg #[.int .u64 (makeW true n.natAbs 0 : Int), .bool (makeOk n.natAbs 0)]) (by simp [results, Tryd.results11, go_sem, s0, s1]) rfl ⟨agg_ib (by rw [HD.out]) rfl, HE.2⟩
  · have HD := Lib.hid (decide_eq_false h)
    go_enter Tryd.func11, Tryd.ntmps11
    go_wp2_with fail
    refine (refMake_int false _ n.natAbs (by omega) hn _).mono ?_
    rintro e w1 ⟨rfl, bel⟩
    have HB := Lib.hid (((Below.refl w.heap.size w).alloc (Nat.le_refl _) _).trans (bel.mono (by simp)))
    have HR := Lib.hid ((TwoAt.new w (.int .u64 0) (.bool false) 34).on bel (by simp))
    obtain ⟨c0, c1, f0, f1⟩ := HR.out
    have hz := HR.out.lt
    clear bel
    go_wp2
    have HE := two_end (.int .u64 (makeW false n.natAbs 0 : Int)) (.bool (makeOk n.natAbs 0)) HB HR
    obtain ⟨s0, s1, -, -⟩ := HE.1
    exact bodyPost_ret (v := .agg #[.int .u64 (makeW false n.natAbs 0 : Int), .bool (makeOk n.natAbs 0)]) (by simp [results, Tryd.results11, go_sem, s0, s1]) rfl ⟨agg_ib (by rw [HD.out]) rfl, HE.2⟩
theorem int_m3 : intN 13837309855095848960 = -3 ∧ intE 13837309855095848960 = 0 := by decide +kernel
theorem int_half : intN 4602678819172646912 = 0 ∧ intE 4602678819172646912 = 13 := by decide +kernel
theorem weight_7 : weightN 4619567317775286272 = 7 ∧ weightE 4619567317775286272 = 0 := by decide +kernel
theorem intM3_any (w : World) (hT : TabAt 1 Lib.deBruijn64tab w) :
    Calls Tryd.prog 7 #[.float .f64 13837309855095848960] w fun e w' => e = .returned (.tuple #[.int .i64 (-3), .int .i64 0]) ∧ w = w' :=
  (int_any 13837309855095848960 (by decide) w hT).mono fun _ _ ⟨h1, h2⟩ => ⟨by rw [h1, int_m3.1, int_m3.2], h2⟩
theorem intHalf_any (w : World) (hT : TabAt 1 Lib.deBruijn64tab w) :
    Calls Tryd.prog 7 #[.float .f64 4602678819172646912] w fun e w' => e = .returned (.tuple #[.int .i64 0, .int .i64 13]) ∧ w = w' :=
  (int_any 4602678819172646912 (by decide) w hT).mono fun _ _ ⟨h1, h2⟩ => ⟨by rw [h1, int_half.1, int_half.2], h2⟩
theorem weight7_any (w : World) (hT : TabAt 1 Lib.deBruijn64tab w) :
    Calls Tryd.prog 8 #[.float .f64 4619567317775286272] w fun e w' => e = .returned (.tuple #[.int .i64 7, .int .i64 0]) ∧ w = w' :=
  (weight_any 4619567317775286272 (by decide) w hT).mono fun _ _ ⟨h1, h2⟩ => ⟨by rw [h1, weight_7.1, weight_7.2], h2⟩
theorem fintAwake_any (w : World) (hT : TabAt 1 Lib.deBruijn64tab w) :
    Calls Tryd.prog 15 #[] w fun e w' => e = .returned (.bool true) ∧ w = w' := by
  have HT := Lib.hid hT
  clear hT
  go_enter Tryd.func15, Tryd.ntmps15
  go_wp2_with (first
    | (go_at_call 8; refine (weight7_any _ HT.out).mono ?_; rintro e w' ⟨rfl, rfl⟩)
    | fail)
  refine (intM3_any _ HT.out).mono ?_
  rintro e w' ⟨rfl, rfl⟩
  go_wp2_with fail
  refine (intHalf_any _ HT.out).mono ?_
  rintro e w' ⟨rfl, rfl⟩
  go_wp2_with (first
    | (go_at_call 8; refine (weight7_any _ HT.out).mono ?_; rintro e w' ⟨rfl, rfl⟩))
  go_ret
  exact ⟨rfl, rfl⟩
end Go.Proofs.YtmagdmjccljkiaaDoor
