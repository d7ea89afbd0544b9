/- A number that has a float is that float's; a whole float that is not -0 is the float of its number. Conditions: none: every word of 64 bits, every int64; the library's table of de Bruijn holds what the program's text lays into it, and the card ties that to the text. -/
import Derived.Test.YtmagdmjccljkiaaDoorFbitLaid
import Derived.Test.YtmagdmjccljkiaaDoorFintRef
import Derived.Test.YtmagdmjccljkiaaDoorFintMore
import Derived.Test.YtmagdmjccljkiaaDoorTie
import Derived.Test.YtmagdmjccljkiaaDoorCards
import Derived.SevenTiedAt
namespace Go.Proofs.YtmagdmjccljkiaaDoor.fintBack
open Go.ChangeShapes Go.WideShapes Go.ChangeAt Go.RowKit FbitPure FintPure
/-- Float at the number that b is, then Bits. -/
theorem bitsBack_any (b : Nat) (hb : b < 18446744073709551616) (h : intE b = 0) (h0 : b ≠ 9223372036854775808) (w : World) :
    Calls Tryd.prog 14 #[.float .f64 (makeW (decide (intN b < 0)) (intN b).natAbs 0)] w fun en w' => en = .returned (.int .u64 (b : Int)) ∧ w = w' := by
  have hr := intN_rng b
  have hm := make_lt (decide (intN b < 0)) (intN b).natAbs 0 (by omega)
  refine (bits_any _ (by omega) w).mono fun _ _ ⟨h1, h2⟩ => ⟨?_, h2⟩
  rcases (back_float b hb h).2 with h3 | h3
  · rw [h1, h3]
  · exact absurd h3.1 h0
theorem bitsNone_any (n : Int) (h : makeOk n.natAbs 0 = false) (w : World) :
    Calls Tryd.prog 14 #[.float .f64 (makeW (decide (n < 0)) n.natAbs 0)] w fun en w' => en = .returned (.int .u64 0) ∧ w = w' := by
  rw [make_none _ _ _ h]
  exact (bits_any 0 (by decide) w).mono fun _ _ ⟨h1, h2⟩ => ⟨by rw [h1, show bitsN 0 = 0 from by decide +kernel]; rfl, h2⟩
theorem refBits0_any (w : World) : Calls Tryd.prog 19 #[.int .u64 0] w fun en w' => en = .returned (.int .u64 0) ∧ w = w' :=
  (refBits_any 0 (by decide) w).mono fun _ _ ⟨h1, h2⟩ => ⟨by rw [h1, show bitsN 0 = 0 from by decide +kernel]; rfl, h2⟩
theorem intBack_any (n : Int) (h1 : -9223372036854775808 ≤ n) (h2 : n ≤ 9223372036854775807) (h : makeOk n.natAbs 0 = true) (w : World) (hT : TabAt 1 Lib.deBruijn64tab w) :
    Calls Tryd.prog 7 #[.float .f64 (makeW (decide (n < 0)) n.natAbs 0)] w fun e w' => e = .returned (.tuple #[.int .i64 n, .int .i64 0]) ∧ w = w' :=
  (int_any _ (by have := (make_lt (decide (n < 0)) n.natAbs 0 (by omega)).1; omega) w hT).mono fun _ _ ⟨g1, g2⟩ => ⟨by rw [g1, (back_int n h1 h2 h).1, (back_int n h1 h2 h).2], g2⟩
theorem intSome_any (n : Int) (h1 : -9223372036854775808 ≤ n) (h2 : n ≤ 9223372036854775807) (w : World) (hT : TabAt 1 Lib.deBruijn64tab w) :
    Calls Tryd.prog 7 #[.float .f64 (makeW (decide (n < 0)) n.natAbs 0)] w fun e w' => e = .returned (.tuple #[.int .i64 (intN (makeW (decide (n < 0)) n.natAbs 0)), .int .i64 (intE (makeW (decide (n < 0)) n.natAbs 0))]) ∧ w = w' :=
  int_any _ (by have := (make_lt (decide (n < 0)) n.natAbs 0 (by omega)).1; omega) w hT
theorem floatIs_any (n : Int) (v : Bool) (hv : makeOk n.natAbs 0 = v) (h1 : -9223372036854775808 ≤ n) (h2 : n ≤ 9223372036854775807) (w : World) (hT : TabAt 1 Lib.deBruijn64tab w) :
    Calls Tryd.prog 9 #[.int .i64 n] w fun e w' => e = .returned (.tuple #[.float .f64 (makeW (decide (n < 0)) n.natAbs 0), .bool v]) ∧ w = w' := by
  subst hv
  exact float_any n h1 h2 w hT
set_option maxHeartbeats 400000 in
theorem walk1 (b : Nat) (n : Int) (hb : (b : Int) ≤ 18446744073709551615) (h1 : -9223372036854775808 ≤ n) (h2 : n ≤ 9223372036854775807) (w : World) (hT : TabAt 1 Lib.deBruijn64tab w) (he : intE b = 0) (hb0 : b ≠ 9223372036854775808) :
    Calls Tryd.prog 5 #[.int .u64 b, .int .i64 n] w fun e w' => e = .returned (.bool true) ∧ w = w' := by
  have HT := Lib.hid hT
  have r1 := (intN_rng b).1
  have r2 := (intN_rng b).2
  clear hT
  have HE := Lib.hid he
  have HB := Lib.hid hb0
  clear he hb0
  have T1 : Hid (makeOk n.natAbs 0 = true ∨ makeOk n.natAbs 0 = false) := Lib.hid (by cases makeOk n.natAbs 0 <;> simp)
  rcases T1.out with hk0 | hk0
  · have hk := Lib.hid hk0
    clear hk0
    go_enter Tryd.func5, Tryd.ntmps5
    go_wp2_with (first | (go_at_call 6; refine (of_any _ _).mono ?_; rintro e w' ⟨rfl, rfl⟩) | fail)
    refine (int_any b hb _ HT.out).mono ?_
    rintro e w' ⟨rfl, rfl⟩
    rw [HE.out]
    go_wp2_with fail
    refine (floatIs_any (intN b) true (back_float b (by omega) HE.out).1 r1 r2 _ HT.out).mono ?_
    rintro e w' ⟨rfl, rfl⟩
    go_wp2_with (first | (go_at_call 14; refine (bitsBack_any b (by omega) HE.out HB.out _).mono ?_; rintro e w' ⟨rfl, rfl⟩) | fail)
    refine (floatIs_any n _ hk.out h1 h2 _ HT.out).mono ?_
    rintro e w' ⟨rfl, rfl⟩
    go_wp2_with fail
    refine (intBack_any n h1 h2 hk.out _ HT.out).mono ?_
    rintro e w' ⟨rfl, rfl⟩
    go_wp2_with (first | (go_at_call 15; refine (fintAwake_any _ HT.out).mono ?_; rintro e w' ⟨rfl, rfl⟩))
    all_goals (go_ret; exact ⟨rfl, rfl⟩)
  · have hk := Lib.hid hk0
    have hbig : n < -9007199254740992 ∨ 9007199254740992 < n := by
      refine Decidable.byContradiction fun hc => ?_
      have := ok_small n.natAbs (by omega)
      rw [hk0] at this
      cases this
    clear hk0
    rcases hbig with hbig | hbig
    · go_enter Tryd.func5, Tryd.ntmps5
      go_wp2_with (first | (go_at_call 6; refine (of_any _ _).mono ?_; rintro e w' ⟨rfl, rfl⟩) | fail)
      refine (int_any b hb _ HT.out).mono ?_
      rintro e w' ⟨rfl, rfl⟩
      rw [HE.out]
      go_wp2_with fail
      refine (floatIs_any (intN b) true (back_float b (by omega) HE.out).1 r1 r2 _ HT.out).mono ?_
      rintro e w' ⟨rfl, rfl⟩
      go_wp2_with (first | (go_at_call 14; refine (bitsBack_any b (by omega) HE.out HB.out _).mono ?_; rintro e w' ⟨rfl, rfl⟩) | fail)
      refine (floatIs_any n _ hk.out h1 h2 _ HT.out).mono ?_
      rintro e w' ⟨rfl, rfl⟩
      go_wp2_with fail
      refine (intSome_any n h1 h2 _ HT.out).mono ?_
      rintro e w' ⟨rfl, rfl⟩
      go_wp2_with (first | (go_at_call 14; refine (bitsNone_any n hk.out _).mono ?_; rintro e w' ⟨rfl, rfl⟩) | (go_at_call 19; refine (refBits0_any _).mono ?_; rintro e w' ⟨rfl, rfl⟩) | (go_at_call 15; refine (fintAwake_any _ HT.out).mono ?_; rintro e w' ⟨rfl, rfl⟩))
      all_goals (go_ret; exact ⟨rfl, rfl⟩)
    · have hbig' : ¬ n < -9007199254740992 := by omega
      go_enter Tryd.func5, Tryd.ntmps5
      go_wp2_with (first | (go_at_call 6; refine (of_any _ _).mono ?_; rintro e w' ⟨rfl, rfl⟩) | fail)
      refine (int_any b hb _ HT.out).mono ?_
      rintro e w' ⟨rfl, rfl⟩
      rw [HE.out]
      go_wp2_with fail
      refine (floatIs_any (intN b) true (back_float b (by omega) HE.out).1 r1 r2 _ HT.out).mono ?_
      rintro e w' ⟨rfl, rfl⟩
      go_wp2_with (first | (go_at_call 14; refine (bitsBack_any b (by omega) HE.out HB.out _).mono ?_; rintro e w' ⟨rfl, rfl⟩) | fail)
      refine (floatIs_any n _ hk.out h1 h2 _ HT.out).mono ?_
      rintro e w' ⟨rfl, rfl⟩
      go_wp2_with fail
      refine (intSome_any n h1 h2 _ HT.out).mono ?_
      rintro e w' ⟨rfl, rfl⟩
      go_wp2_with (first | (go_at_call 14; refine (bitsNone_any n hk.out _).mono ?_; rintro e w' ⟨rfl, rfl⟩) | (go_at_call 19; refine (refBits0_any _).mono ?_; rintro e w' ⟨rfl, rfl⟩) | (go_at_call 15; refine (fintAwake_any _ HT.out).mono ?_; rintro e w' ⟨rfl, rfl⟩))
      all_goals (go_ret; exact ⟨rfl, rfl⟩)
theorem minus_0 : intN 9223372036854775808 = 0 ∧ intE 9223372036854775808 = 0 := by decide +kernel
theorem bits0_any (w : World) : Calls Tryd.prog 14 #[.float .f64 (makeW (decide ((0 : Int) < 0)) (0 : Int).natAbs 0)] w fun en w' => en = .returned (.int .u64 0) ∧ w = w' := by
  rw [show makeW (decide ((0 : Int) < 0)) (0 : Int).natAbs 0 = 0 from by decide +kernel]
  exact (bits_any 0 (by decide) w).mono fun _ _ ⟨h1, h2⟩ => ⟨by rw [h1, show bitsN 0 = 0 from by decide +kernel]; rfl, h2⟩
set_option maxHeartbeats 400000 in
theorem walk2 (n : Int) (h1 : -9223372036854775808 ≤ n) (h2 : n ≤ 9223372036854775807) (w : World) (hT : TabAt 1 Lib.deBruijn64tab w)  :
    Calls Tryd.prog 5 #[.int .u64 9223372036854775808, .int .i64 n] w fun e w' => e = .returned (.bool true) ∧ w = w' := by
  have HT := Lib.hid hT
  clear hT
  have T1 : Hid (makeOk n.natAbs 0 = true ∨ makeOk n.natAbs 0 = false) := Lib.hid (by cases makeOk n.natAbs 0 <;> simp)
  rcases T1.out with hk0 | hk0
  · have hk := Lib.hid hk0
    clear hk0
    go_enter Tryd.func5, Tryd.ntmps5
    go_wp2_with (first | (go_at_call 6; refine (of_any _ _).mono ?_; rintro e w' ⟨rfl, rfl⟩) | fail)
    refine (int_any _ (by decide) _ HT.out).mono ?_
    rintro e w' ⟨rfl, rfl⟩
    rw [minus_0.1, minus_0.2]
    go_wp2_with fail
    refine (floatIs_any 0 true (by decide) (by decide) (by decide) _ HT.out).mono ?_
    rintro e w' ⟨rfl, rfl⟩
    go_wp2_with (first | (go_at_call 14; refine (bits0_any _).mono ?_; rintro e w' ⟨rfl, rfl⟩) | fail)
    refine (floatIs_any n _ hk.out h1 h2 _ HT.out).mono ?_
    rintro e w' ⟨rfl, rfl⟩
    go_wp2_with fail
    refine (intBack_any n h1 h2 hk.out _ HT.out).mono ?_
    rintro e w' ⟨rfl, rfl⟩
    go_wp2_with (first | (go_at_call 15; refine (fintAwake_any _ HT.out).mono ?_; rintro e w' ⟨rfl, rfl⟩))
    all_goals (go_ret; exact ⟨rfl, rfl⟩)
  · have hk := Lib.hid hk0
    have hbig : n < -9007199254740992 ∨ 9007199254740992 < n := by
      refine Decidable.byContradiction fun hc => ?_
      have := ok_small n.natAbs (by omega)
      rw [hk0] at this
      cases this
    clear hk0
    rcases hbig with hbig | hbig
    · go_enter Tryd.func5, Tryd.ntmps5
      go_wp2_with (first | (go_at_call 6; refine (of_any _ _).mono ?_; rintro e w' ⟨rfl, rfl⟩) | fail)
      refine (int_any _ (by decide) _ HT.out).mono ?_
      rintro e w' ⟨rfl, rfl⟩
      rw [minus_0.1, minus_0.2]
      go_wp2_with fail
      refine (floatIs_any 0 true (by decide) (by decide) (by decide) _ HT.out).mono ?_
      rintro e w' ⟨rfl, rfl⟩
      go_wp2_with (first | (go_at_call 14; refine (bits0_any _).mono ?_; rintro e w' ⟨rfl, rfl⟩) | fail)
      refine (floatIs_any n _ hk.out h1 h2 _ HT.out).mono ?_
      rintro e w' ⟨rfl, rfl⟩
      go_wp2_with fail
      refine (intSome_any n h1 h2 _ HT.out).mono ?_
      rintro e w' ⟨rfl, rfl⟩
      go_wp2_with (first | (go_at_call 14; refine (bitsNone_any n hk.out _).mono ?_; rintro e w' ⟨rfl, rfl⟩) | (go_at_call 19; refine (refBits0_any _).mono ?_; rintro e w' ⟨rfl, rfl⟩) | (go_at_call 15; refine (fintAwake_any _ HT.out).mono ?_; rintro e w' ⟨rfl, rfl⟩))
      all_goals (go_ret; exact ⟨rfl, rfl⟩)
    · have hbig' : ¬ n < -9007199254740992 := by omega
      go_enter Tryd.func5, Tryd.ntmps5
      go_wp2_with (first | (go_at_call 6; refine (of_any _ _).mono ?_; rintro e w' ⟨rfl, rfl⟩) | fail)
      refine (int_any _ (by decide) _ HT.out).mono ?_
      rintro e w' ⟨rfl, rfl⟩
      rw [minus_0.1, minus_0.2]
      go_wp2_with fail
      refine (floatIs_any 0 true (by decide) (by decide) (by decide) _ HT.out).mono ?_
      rintro e w' ⟨rfl, rfl⟩
      go_wp2_with (first | (go_at_call 14; refine (bits0_any _).mono ?_; rintro e w' ⟨rfl, rfl⟩) | fail)
      refine (floatIs_any n _ hk.out h1 h2 _ HT.out).mono ?_
      rintro e w' ⟨rfl, rfl⟩
      go_wp2_with fail
      refine (intSome_any n h1 h2 _ HT.out).mono ?_
      rintro e w' ⟨rfl, rfl⟩
      go_wp2_with (first | (go_at_call 14; refine (bitsNone_any n hk.out _).mono ?_; rintro e w' ⟨rfl, rfl⟩) | (go_at_call 19; refine (refBits0_any _).mono ?_; rintro e w' ⟨rfl, rfl⟩) | (go_at_call 15; refine (fintAwake_any _ HT.out).mono ?_; rintro e w' ⟨rfl, rfl⟩))
      all_goals (go_ret; exact ⟨rfl, rfl⟩)
set_option maxHeartbeats 400000 in
theorem walk3 (b : Nat) (n : Int) (hb : (b : Int) ≤ 18446744073709551615) (h1 : -9223372036854775808 ≤ n) (h2 : n ≤ 9223372036854775807) (w : World) (hT : TabAt 1 Lib.deBruijn64tab w) (he : intE b ≠ 0) :
    Calls Tryd.prog 5 #[.int .u64 b, .int .i64 n] w fun e w' => e = .returned (.bool true) ∧ w = w' := by
  have HT := Lib.hid hT
  have r1 := (intN_rng b).1
  have r2 := (intN_rng b).2
  clear hT
  have t0 : (intE b == 0) = false := by simp [he]
  have t1 : (intE b != 0) = true := by simp [he]
  have HN := Lib.hid (show intN b = 0 from if_neg he)
  clear he
  have T1 : Hid (makeOk n.natAbs 0 = true ∨ makeOk n.natAbs 0 = false) := Lib.hid (by cases makeOk n.natAbs 0 <;> simp)
  rcases T1.out with hk0 | hk0
  · have hk := Lib.hid hk0
    clear hk0
    go_enter Tryd.func5, Tryd.ntmps5
    go_wp2_with (first | (go_at_call 6; refine (of_any _ _).mono ?_; rintro e w' ⟨rfl, rfl⟩) | fail)
    refine (int_any b hb _ HT.out).mono ?_
    rintro e w' ⟨rfl, rfl⟩
    rw [HN.out]
    go_wp2_with fail
    refine (floatIs_any 0 true (by decide) (by decide) (by decide) _ HT.out).mono ?_
    rintro e w' ⟨rfl, rfl⟩
    go_wp2_with fail
    refine (floatIs_any n _ hk.out h1 h2 _ HT.out).mono ?_
    rintro e w' ⟨rfl, rfl⟩
    go_wp2_with fail
    refine (intBack_any n h1 h2 hk.out _ HT.out).mono ?_
    rintro e w' ⟨rfl, rfl⟩
    go_wp2_with (first | (go_at_call 15; refine (fintAwake_any _ HT.out).mono ?_; rintro e w' ⟨rfl, rfl⟩))
    all_goals (go_ret; exact ⟨rfl, rfl⟩)
  · have hk := Lib.hid hk0
    have hbig : n < -9007199254740992 ∨ 9007199254740992 < n := by
      refine Decidable.byContradiction fun hc => ?_
      have := ok_small n.natAbs (by omega)
      rw [hk0] at this
      cases this
    clear hk0
    rcases hbig with hbig | hbig
    · go_enter Tryd.func5, Tryd.ntmps5
      go_wp2_with (first | (go_at_call 6; refine (of_any _ _).mono ?_; rintro e w' ⟨rfl, rfl⟩) | fail)
      refine (int_any b hb _ HT.out).mono ?_
      rintro e w' ⟨rfl, rfl⟩
      rw [HN.out]
      go_wp2_with fail
      refine (floatIs_any 0 true (by decide) (by decide) (by decide) _ HT.out).mono ?_
      rintro e w' ⟨rfl, rfl⟩
      go_wp2_with fail
      refine (floatIs_any n _ hk.out h1 h2 _ HT.out).mono ?_
      rintro e w' ⟨rfl, rfl⟩
      go_wp2_with fail
      refine (intSome_any n h1 h2 _ HT.out).mono ?_
      rintro e w' ⟨rfl, rfl⟩
      go_wp2_with (first | (go_at_call 14; refine (bitsNone_any n hk.out _).mono ?_; rintro e w' ⟨rfl, rfl⟩) | (go_at_call 19; refine (refBits0_any _).mono ?_; rintro e w' ⟨rfl, rfl⟩) | (go_at_call 15; refine (fintAwake_any _ HT.out).mono ?_; rintro e w' ⟨rfl, rfl⟩))
      all_goals (go_ret; exact ⟨rfl, rfl⟩)
    · have hbig' : ¬ n < -9007199254740992 := by omega
      go_enter Tryd.func5, Tryd.ntmps5
      go_wp2_with (first | (go_at_call 6; refine (of_any _ _).mono ?_; rintro e w' ⟨rfl, rfl⟩) | fail)
      refine (int_any b hb _ HT.out).mono ?_
      rintro e w' ⟨rfl, rfl⟩
      rw [HN.out]
      go_wp2_with fail
      refine (floatIs_any 0 true (by decide) (by decide) (by decide) _ HT.out).mono ?_
      rintro e w' ⟨rfl, rfl⟩
      go_wp2_with fail
      refine (floatIs_any n _ hk.out h1 h2 _ HT.out).mono ?_
      rintro e w' ⟨rfl, rfl⟩
      go_wp2_with fail
      refine (intSome_any n h1 h2 _ HT.out).mono ?_
      rintro e w' ⟨rfl, rfl⟩
      go_wp2_with (first | (go_at_call 14; refine (bitsNone_any n hk.out _).mono ?_; rintro e w' ⟨rfl, rfl⟩) | (go_at_call 19; refine (refBits0_any _).mono ?_; rintro e w' ⟨rfl, rfl⟩) | (go_at_call 15; refine (fintAwake_any _ HT.out).mono ?_; rintro e w' ⟨rfl, rfl⟩))
      all_goals (go_ret; exact ⟨rfl, rfl⟩)
theorem walk (a0 : Int) (w0 : (Lit.int .u64 a0).wf = true) (n : Int) (w1 : (Lit.int .i64 n).wf = true) (w : World) (hT : TabAt 1 Lib.deBruijn64tab w) :
    Calls Tryd.prog 5 #[.int .u64 a0, .int .i64 n] w fun e w' => e = .returned (.bool true) ∧ Below w.heap.size w w' := by
  obtain ⟨z1, hb⟩ := bounds_u64 w0
  obtain ⟨h1, h2⟩ := bounds_i64 w1
  obtain ⟨b, rfl⟩ := Int.eq_ofNat_of_zero_le z1
  have H : Calls Tryd.prog 5 #[.int .u64 b, .int .i64 n] w fun e w' => e = .returned (.bool true) ∧ w = w' := by
    by_cases he : intE b = 0
    · by_cases h0 : b = 9223372036854775808
      · rw [h0]; exact walk2 n h1 h2 w hT
      · exact walk1 b n hb h1 h2 w hT he h0
    · exact walk3 b n hb h1 h2 w hT he
  exact H.mono fun _ _ ⟨g1, g2⟩ => ⟨g1, g2 ▸ Below.refl _ _⟩
set_option maxRecDepth 100000 in
theorem lifted (os : Os) (started : os.Started) (H : Type) (enc : TypeId × Value → H) :
    ReturnsInHanded {} Tryd.checked os 5 .any (fun w args => (Rows.fintBackSpec.pre enc Tryd.prog Tryd.f5 [] false w args ∧ laidMetH Tryd.prog Rows.fintTellsRow.laid w) ∧ sizedMet enc Tryd.prog Tryd.f5 (OpenSpec.ofChange Rows.fintBackSpec) false w args)
      (Rows.fintBackSpec.post enc Tryd.prog Tryd.f5 false true false false) := by
  refine returnsInHanded_of_change_and (C := Tryd.checked) (X := fun w _ => laidMetH Tryd.prog Rows.fintTellsRow.laid w) (fun _ _ _ hh h => h.of_heap hh) own started (by kernel_rfl) Tryd.func5
    (ChangeSpec.witness_at (enc := enc) (C := Tryd.checked) (os := os) (X := fun w _ => laidMetH Tryd.prog Rows.fintTellsRow.laid w) false (laidWorld Tryd.prog os) #[.int .u64 0, .int .i64 0] 8 rfl (by kernel_rfl) (by kernel_rfl) (by kernel_rfl) (by kernel_rfl) (by kernel_rfl) (laid_met os _)) ?_
  intro W base args ds gs before hval0 hW _ _ hL _
  have hval : ∀ (j : Nat) t v, Tryd.f5.params[j]? = some t → args[j]? = some v → Value.okWide Tryd.prog W .any base t v := hval0
  have hW' := hW
  obtain ⟨p, q, hA0, hV, rfl, hfz, hnd⟩ := hW
  have hA : DataW.TrodAll enc Tryd.prog W 0 (fun _ => true) true Tryd.f5.params.toList args.toList ds p := hA0
  rw [Tryd.params5] at hA hval
  obtain ⟨v0, vs0, d0, ds0, p0, q0, hargs, rfl, rfl, h0, r0⟩ := trodAll_cons hA
  obtain ⟨v1, vs1, d1, ds1, p1, q1, rfl, rfl, rfl, h1, r1⟩ := trodAll_cons r0
  obtain ⟨rfl, rfl, rfl⟩ := trodAll_nil r1
  obtain rfl : args = #[v0, v1] := by cases args; simp_all
  obtain ⟨rfl, rfl⟩ := trodVars_none hV
  obtain ⟨a0, rfl, rfl, rfl, w0⟩ := open_int Tryd.underlying22 (hval 0 22 v0 rfl rfl) h0
  obtain ⟨a1, rfl, rfl, rfl, w1⟩ := open_int Tryd.underlying2 (hval 1 2 v1 rfl rfl) h1
  clear hA0 hval0
  simp only [List.append_nil] at hW'
  refine (walk a0 w0 a1 w1 W (tab_of_laid hL)).mono fun e W' ⟨he, bel⟩ => ?_
  subst he
  exact ⟨_, rfl, _, _, _, [], [], [], hW', trodAll_mk1 (shut_bool Tryd.underlying4 _), (trodAll_cons_mk (shut_int Tryd.underlying22 w0) (trodAll_cons_mk (shut_int Tryd.underlying2 w1) trodAll_mk0)), rfl, bel.frame _, fun h => by cases h⟩
theorem over : Rows.fintBackRow.holds Tryd.pinned (OpenSpec.ofChange Rows.fintBackSpec) :=
  OpenClaim.holds_of_wide 5 Tryd.f5 rfl rfl rfl rfl rfl rfl rfl ⟨rfl, rfl, rfl, rfl, rfl⟩ rfl rfl rfl rfl rfl (by kernel_rfl) Tryd.func5 (by kernel_rfl)
    (of_decide_eq_true (by kernel_rfl)) (by unfold Func.isWrapper; first | (rw [if_pos (by decide +kernel)]; kernel_rfl) | (rw [if_neg (by decide +kernel)]; exact ⟨rfl, rfl⟩))
    (fun os started H enc _ => lifted os started H enc)
/-- The statement: the tied card. -/
theorem proved : Rows.FintBackCardSaid :=
  Claim7.holds_tied_plain_at .later [] [.data] true Rows.fintBackCard.stood.harness false
    over (fun _ h => by cases h) (by kernel_rfl) (fun _ h => by cases h) fintBack_row_tie rfl ⟨rfl, rfl⟩ (by kernel_rfl) rfl
    (fun f fn hf hfn => by
      obtain rfl : f = 5 := Option.some.inj ((show Tryd.prog.funcNamed Rows.fintBackRow.func = some 5 by kernel_rfl).symm.trans hf) |>.symm
      obtain rfl : fn = Tryd.f5 := (Option.some.inj (Tryd.func5.symm.trans hfn)).symm
      exact ⟨by kernel_rfl, fun j t ht => by
        rw [Tryd.params5] at ht
        have hall : ∀ t ∈ #[22, 2], Tryd.prog.wantsStandIn t = false := by decide +kernel
        exact hall t (Array.mem_of_getElem? ht)⟩)
    (by kernel_rfl)
#print axioms proved
end Go.Proofs.YtmagdmjccljkiaaDoor.fintBack
