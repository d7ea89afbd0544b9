/- Contracts of the document's own answers for layer 5, but for Back: how many steps a float is, a list's numbers of steps, a list's step. -/
import Derived.Test.YtopniihomjakoaaDoorQuantRun
import Derived.Test.YtopniihomjakoaaDoorCells
namespace Go.Proofs.YtopniihomjakoaaDoor
open Go.RowKit Go.ChangeShapes FbitPure QuantPure
theorem qagg_ii {c d m n : Int} (h2 : c = d) (h3 : m = n) : Ending.returned (.agg #[.int .i64 c, .int .i64 m]) = .returned (.agg #[.int .i64 d, .int .i64 n]) := by rw [h2, h3]
theorem qtwo_end {N : Nat} {w w1 : World} {a b : Value} (u v : Value) (x : Obj) (HB : Hid (Below N w w1)) (HR : Hid (TwoAt N w1 a b)) :
    TwoAt N (((w1.setCell ⟨N, 0, none⟩ u).setCell ⟨N, 1, none⟩ v).alloc x) u v ∧ Below N w (((w1.setCell ⟨N, 0, none⟩ u).setCell ⟨N, 1, none⟩ v).alloc x) := by
  have HS := HR.out.set u v
  have hz := HR.out.lt
  exact ⟨HS.on ((Below.refl _ _).alloc (Nat.le_refl _) x) HS.lt, ((HB.out.setCell (p := ⟨N, 0, none⟩) (Nat.le_refl _) _).setCell (p := ⟨N, 1, none⟩) (Nat.le_refl _) _).alloc (by simp; omega) _⟩
/-- The document's Int of what has no parts. -/
theorem refIntNone_any (b : Nat) (hb : (b : Int) ≤ 18446744073709551615) (h : partOk b = false) (w : World) :
    Calls Tryd.prog 37 #[.int .u64 b] w fun e w' => e = .returned (.agg #[.int .i64 0, .int .i64 (noE b)]) ∧ Below w.heap.size w w' := by
  rcases noE_cases b with ⟨h1, h2, -⟩ | ⟨h1, h2, -⟩ | ⟨_, _, h3⟩
  · have r := Lib.hid h2
    clear h2
    go_enter Tryd.func37, Tryd.ntmps37
    go_wp2_with (first | (go_at_call 17; refine (refKind_any _ hb _).mono ?_; rintro e w' ⟨rfl, rfl⟩))
    refine bodyPost_ret (v := .agg #[.int .i64 0, .int .i64 11]) (by simp [results, Tryd.results37, go_sem]) rfl ⟨qagg_ii rfl r.out.symm, (Below.refl _ _).alloc (Nat.le_refl _) _⟩
  · have r := Lib.hid h2
    clear h2
    go_enter Tryd.func37, Tryd.ntmps37
    go_wp2_with (first | (go_at_call 17; refine (refKind_any _ hb _).mono ?_; rintro e w' ⟨rfl, rfl⟩))
    refine bodyPost_ret (v := .agg #[.int .i64 0, .int .i64 12]) (by simp [results, Tryd.results37, go_sem]) rfl ⟨qagg_ii rfl r.out.symm, (Below.refl _ _).alloc (Nat.le_refl _) _⟩
  · rw [h] at h3; cases h3
set_option maxHeartbeats 1000000 in
theorem refOne_any (b : Nat) (k : Int) (hb : (b : Int) ≤ 18446744073709551615) (hk1 : -9223372036854775808 ≤ k) (hk2 : k ≤ 9223372036854775807) (w : World) :
    Calls Tryd.prog 24 #[.int .u64 b, .int .i64 k] w fun e w' => e = .returned (.agg #[.int .i64 (cntN k b), .int .i64 (cntE k b)]) ∧ Below w.heap.size w w' := by
  cases hok : partOk b
  · obtain ⟨q1, q2⟩ := cnt_no k b hok
    have Q1 := Lib.hid q1
    have Q2 := Lib.hid q2
    clear q1 q2
    go_enter Tryd.func24, Tryd.ntmps24
    go_wp2_with fail
    refine (refParts_any _ hb _).mono ?_
    rintro e w1 ⟨rfl, bel⟩
    rw [hok]
    have HB := Lib.hid (((Below.refl w.heap.size w).alloc (Nat.le_refl _) (.cells #[.int .i64 0, .int .i64 0] 58)).trans (bel.mono (by simp)))
    have HR := Lib.hid ((TwoAt.new w (.int .i64 0) (.int .i64 0) 58).on bel (by simp))
    clear bel
    go_wp2_with fail
    refine (refIntNone_any b hb hok _).mono ?_
    rintro e w2 ⟨rfl, bel⟩
    have b2 := (Below.refl w1.heap.size w1).alloc (Nat.le_refl _) (.cells #[.int .u64 (partM b), .int .i64 (partE b), .bool false] 61)
    have HR2 := Lib.hid ((HR.out.on b2 HR.out.lt).on bel (by have := HR.out.lt; simp; omega))
    have HB2 := Lib.hid ((HB.out.trans (b2.mono (by have := HR.out.lt; omega))).trans (bel.mono (by have := HR.out.lt; simp; omega)))
    obtain ⟨c0, c1, f0, f1⟩ := HR2.out
    have hz := HR2.out.lt
    clear bel b2
    go_wp2
    obtain ⟨s0, s1, -, -⟩ := HR2.out.set (.int .i64 0) (.int .i64 (noE b))
    refine bodyPost_ret (v := .agg #[.int .i64 0, .int .i64 (noE b)]) (by simp [results, Tryd.results24, go_sem, s0, s1]) rfl ⟨qagg_ii Q2.out.symm Q1.out.symm, ?_⟩
    exact (HB2.out.setCell (p := ⟨w.heap.size, 0, none⟩) (Nat.le_refl _) _).setCell (p := ⟨w.heap.size, 1, none⟩) (Nat.le_refl _) _
  · obtain ⟨q1, q2⟩ := cnt_ok k b hok
    obtain ⟨p1, p2, p3⟩ := part_bounds b
    rw [q1, q2]
    clear q1 q2
    by_cases h0 : partM b = 0
    · have r := Lib.hid (steps_nought (negB b) (partE b) k)
      rw [← h0] at r
      go_enter Tryd.func24, Tryd.ntmps24
      go_wp2_with fail
      refine (refParts_any _ hb _).mono ?_
      rintro e w1 ⟨rfl, bel⟩
      rw [hok]
      have HB := Lib.hid (((Below.refl w.heap.size w).alloc (Nat.le_refl _) (.cells #[.int .i64 0, .int .i64 0] 58)).trans (bel.mono (by simp)))
      have HR := Lib.hid ((TwoAt.new w (.int .i64 0) (.int .i64 0) 58).on bel (by simp))
      obtain ⟨c0, c1, f0, f1⟩ := HR.out
      have hz := HR.out.lt
      have t : ((partM b : Int) == 0) = true := by simp [h0]
      clear bel h0
      go_wp2
      have HE := qtwo_end (.int .i64 0) (.int .i64 0) (.cells #[.int .u64 (partM b), .int .i64 (partE b), .bool true] 61) HB HR
      obtain ⟨s0, s1, -, -⟩ := HE.1
      exact bodyPost_ret (v := .agg #[.int .i64 0, .int .i64 0]) (by simp [results, Tryd.results24, go_sem, s0, s1]) rfl ⟨qagg_ii r.out.2.symm r.out.1.symm, HE.2⟩
    have hm64 : partM b < 18446744073709551616 := by omega
    have hz0 : ¬ (partM b : Int) = 0 := by omega
    by_cases hf : partE b < k
    · have r := Lib.hid (steps_frac (negB b) (partM b) (partE b) k h0 hf)
      go_enter Tryd.func24, Tryd.ntmps24
      go_wp2_with fail
      refine (refParts_any _ hb _).mono ?_
      rintro e w1 ⟨rfl, bel⟩
      rw [hok]
      have HB := Lib.hid (((Below.refl w.heap.size w).alloc (Nat.le_refl _) (.cells #[.int .i64 0, .int .i64 0] 58)).trans (bel.mono (by simp)))
      have HR := Lib.hid ((TwoAt.new w (.int .i64 0) (.int .i64 0) 58).on bel (by simp))
      obtain ⟨c0, c1, f0, f1⟩ := HR.out
      have hz := HR.out.lt
      clear bel
      go_wp2
      have HE := qtwo_end (.int .i64 0) (.int .i64 13) (.cells #[.int .u64 (partM b), .int .i64 (partE b), .bool true] 61) HB HR
      obtain ⟨s0, s1, -, -⟩ := HE.1
      exact bodyPost_ret (v := .agg #[.int .i64 0, .int .i64 13]) (by simp [results, Tryd.results24, go_sem, s0, s1]) rfl ⟨qagg_ii r.out.2.symm r.out.1.symm, HE.2⟩
    by_cases hs : k < -3000
    · have r := Lib.hid (steps_far (negB b) (partM b) (partE b) k h0 hm64 (by omega) (by omega))
      go_enter Tryd.func24, Tryd.ntmps24
      go_wp2_with fail
      refine (refParts_any _ hb _).mono ?_
      rintro e w1 ⟨rfl, bel⟩
      rw [hok]
      have HB := Lib.hid (((Below.refl w.heap.size w).alloc (Nat.le_refl _) (.cells #[.int .i64 0, .int .i64 0] 58)).trans (bel.mono (by simp)))
      have HR := Lib.hid ((TwoAt.new w (.int .i64 0) (.int .i64 0) 58).on bel (by simp))
      obtain ⟨c0, c1, f0, f1⟩ := HR.out
      have hz := HR.out.lt
      clear bel
      go_wp2
      have HE := qtwo_end (.int .i64 0) (.int .i64 10) (.cells #[.int .u64 (partM b), .int .i64 (partE b), .bool true] 61) HB HR
      obtain ⟨s0, s1, -, -⟩ := HE.1
      exact bodyPost_ret (v := .agg #[.int .i64 0, .int .i64 10]) (by simp [results, Tryd.results24, go_sem, s0, s1]) rfl ⟨qagg_ii r.out.2.symm r.out.1.symm, HE.2⟩
    have R := Lib.hid (steps_sgn (negB b) (partM b) (partE b) k h0 (by omega))
    have H0 := Lib.hid (UpQ.start (partM b) (partE b - k).toNat hm64)
    have hHN := Lib.hid (room_cases (negB b))
    go_enter Tryd.func24, Tryd.ntmps24
    go_wp2_with fail
    refine (refParts_any _ hb _).mono ?_
    rintro e w1 ⟨rfl, bel⟩
    rw [hok]
    have HB := Lib.hid (((Below.refl w.heap.size w).alloc (Nat.le_refl _) (.cells #[.int .i64 0, .int .i64 0] 58)).trans (bel.mono (by simp)))
    have HR := Lib.hid ((TwoAt.new w (.int .i64 0) (.int .i64 0) 58).on bel (by simp))
    obtain ⟨c0, c1, f0, f1⟩ := HR.out
    have hz := HR.out.lt
    clear bel
    go_wp2
    go_loop [6, 7] (fun n i => ∃ (z : Int) (i' : Nat), Hid (∃ n' : Nat, z = (n' : Int) ∧ UpQ (partM b) (partE b - k).toNat n' i') ∧ n = .int .u64 z ∧ i = .int .i64 (i' : Int)) (fun _ i => (partE b - k).toNat - (intOf i).toNat)
    case atStart => exact ⟨_, _, Lib.hid ⟨_, rfl, H0.out⟩, rfl, rfl⟩
    case round =>
      obtain ⟨z, i, HD0, rfl, rfl⟩ := hrel
      obtain ⟨n, hzn, HD1⟩ := HD0.out
      have HD := Lib.hid HD1
      have hn := HD.out.2.2
      have hi := HD.out.1
      have hn1 : 0 ≤ z := by omega
      have hn2 : z ≤ 18446744073709551615 := by omega
      have HZ := Lib.hid hzn
      clear HD0 HD1 hzn hn
      by_cases hlt : i < (partE b - k).toNat
      · have hlt' : (i : Int) < partE b - k := by omega
        by_cases hb3 : 9223372036854775808 ≤ z
        · have r := Lib.hid (steps_wide (negB b) (partM b) (partE b) k h0 (by omega) (by have := HD.out.big hlt (by have := HZ.out; omega); have := hHN.out; omega))
          go_wp2
          have HE := qtwo_end (.int .i64 0) (.int .i64 10) (.cells #[.int .u64 (partM b), .int .i64 (partE b), .bool true] 61) HB HR
          obtain ⟨s0, s1, -, -⟩ := HE.1
          exact bodyPost_ret (v := .agg #[.int .i64 0, .int .i64 10]) (by simp [results, Tryd.results24, go_sem, s0, s1]) rfl ⟨qagg_ii r.out.2.symm r.out.1.symm, HE.2⟩
        · have HN := Lib.hid (HD.out.step hlt (by have := HZ.out; omega))
          go_wp2
          go_round
          case rel => exact ⟨z * 2, i + 1, Lib.hid ⟨n * 2, by have := HZ.out; omega, HN.out⟩, rfl, by go_num⟩
          case measure => simp [intOf]; omega
      · have hd := Lib.hid (HD.out.done hlt)
        have hge : ¬ (i : Int) < partE b - k := by omega
        rw [← hd.out, ← HZ.out] at R
        have HNEG := Lib.hid (refNeg_any b hb)
        cases hng : negB b
        · rw [hng] at HNEG
          have HNG := Lib.hid hng
          by_cases hb3 : 9223372036854775808 ≤ z
          · have r := Lib.hid (sgn_pos_no z hb3)
            go_wp2_with (first | (go_at_call 38; refine (HNEG.out _).mono ?_; rintro e w' ⟨rfl, rfl⟩))
            have HE := qtwo_end (.int .i64 0) (.int .i64 10) (.cells #[.int .u64 (partM b), .int .i64 (partE b), .bool true] 61) HB HR
            obtain ⟨s0, s1, -, -⟩ := HE.1
            exact bodyPost_ret (v := .agg #[.int .i64 0, .int .i64 10]) (by simp [results, Tryd.results24, go_sem, s0, s1]) rfl ⟨qagg_ii (by rw [R.out.2, HNG.out]; exact r.out.2.symm) (by rw [R.out.1, HNG.out]; exact r.out.1.symm), HE.2⟩
          · have r := Lib.hid (sgn_pos z (by omega))
            go_wp2_with (first | (go_at_call 38; refine (HNEG.out _).mono ?_; rintro e w' ⟨rfl, rfl⟩))
            have HE := qtwo_end (.int .i64 z) (.int .i64 0) (.cells #[.int .u64 (partM b), .int .i64 (partE b), .bool true] 61) HB HR
            obtain ⟨s0, s1, -, -⟩ := HE.1
            exact bodyPost_ret (v := .agg #[.int .i64 z, .int .i64 0]) (by simp [results, Tryd.results24, go_sem, s0, s1]) rfl ⟨qagg_ii (by rw [R.out.2, HNG.out]; exact r.out.2.symm) (by rw [R.out.1, HNG.out]; exact r.out.1.symm), HE.2⟩
        · rw [hng] at HNEG
          have HNG := Lib.hid hng
          by_cases hb3 : 9223372036854775808 < z
          · have r := Lib.hid (sgn_neg_no z hb3)
            go_wp2_with (first | (go_at_call 38; refine (HNEG.out _).mono ?_; rintro e w' ⟨rfl, rfl⟩))
            have HE := qtwo_end (.int .i64 0) (.int .i64 10) (.cells #[.int .u64 (partM b), .int .i64 (partE b), .bool true] 61) HB HR
            obtain ⟨s0, s1, -, -⟩ := HE.1
            exact bodyPost_ret (v := .agg #[.int .i64 0, .int .i64 10]) (by simp [results, Tryd.results24, go_sem, s0, s1]) rfl ⟨qagg_ii (by rw [R.out.2, HNG.out]; exact r.out.2.symm) (by rw [R.out.1, HNG.out]; exact r.out.1.symm), HE.2⟩
          · have r := Lib.hid (sgn_neg z (by omega))
            have hwn : wrap64 (-wrap64 z) = -z := by unfold wrap64; omega
            go_wp2_with (first | (go_at_call 38; refine (HNEG.out _).mono ?_; rintro e w' ⟨rfl, rfl⟩))
            have HE := qtwo_end (.int .i64 (-z)) (.int .i64 0) (.cells #[.int .u64 (partM b), .int .i64 (partE b), .bool true] 61) HB HR
            obtain ⟨s0, s1, -, -⟩ := HE.1
            exact bodyPost_ret (v := .agg #[.int .i64 (-z), .int .i64 0]) (by simp [results, Tryd.results24, go_sem, s0, s1]) rfl ⟨qagg_ii (by rw [R.out.2, HNG.out]; exact r.out.2.symm) (by rw [R.out.1, HNG.out]; exact r.out.1.symm), HE.2⟩
end Go.Proofs.YtopniihomjakoaaDoor
