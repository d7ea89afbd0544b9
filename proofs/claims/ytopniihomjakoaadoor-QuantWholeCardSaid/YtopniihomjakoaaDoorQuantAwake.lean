/- The program scales floats at all: what layer 5's statements ask of it beside. -/
import Derived.Test.YtopniihomjakoaaDoorQuantRefs
namespace Go.Proofs.YtopniihomjakoaaDoor
open Go.RowKit Go.ChangeShapes FbitPure QuantPure
def twoL : List Nat := [4609434218613702656, 4598175219545276416]
theorem two_step : stepK twoL = -2 ∧ errAt noE twoL = 0 ∧ plcAt noE twoL = 0 := by decide +kernel
theorem two_cnts : cnts (-2) twoL = [6, 1] ∧ errAt (cntE (-2)) twoL = 0 ∧ plcAt (cntE (-2)) twoL = 0 := by decide +kernel
theorem two_fits : (errAt (cntE (-3)) twoL == 0) = true ∧ (errAt (cntE (-1)) twoL == 0) = false := by decide +kernel
theorem two_wide : WideL twoL := by
  intro i hi
  match i, hi with
  | 0, _ => simp [twoL]
  | 1, _ => simp [twoL]
theorem two_reads (w : World) : ReadsL encF (w.heap.size + 1) (w.alloc (.cells #[.float .f64 4609434218613702656, .float .f64 4598175219545276416] 48)) (some ⟨w.heap.size, 0, none⟩) twoL := by
  refine Or.inr ⟨w.heap.size, 0, rfl, by omega, fun i hi => ?_⟩
  match i, hi with
  | 0, _ => simp [twoL, encF]
  | 1, _ => simp [twoL, encF]
theorem six_reads (w : World) : ReadsL (encInt .i64) (w.heap.size + 1) (w.alloc (.cells #[.int .i64 6, .int .i64 1] 2)) (some ⟨w.heap.size, 0, none⟩) [6, 1] := by
  refine Or.inr ⟨w.heap.size, 0, rfl, by omega, fun i hi => ?_⟩
  match i, hi with
  | 0, _ => simp [encInt]
  | 1, _ => simp [encInt]
set_option maxHeartbeats 1000000 in
theorem qawake_any (w : World) (hT : TabAt 1 Lib.deBruijn64tab w) :
    Calls Tryd.prog 6 #[] w fun e w' => e = .returned (.bool true) ∧ Below w.heap.size w w' := by
  have hb0 := (Below.refl w.heap.size w).alloc (Nat.le_refl _) (.cells #[.float .f64 4609434218613702656, .float .f64 4598175219545276416] 48)
  have hl0 := two_reads w
  have HT := Lib.hid (tab_on hT (by decide) hb0)
  have HB := Lib.hid hb0
  have HL := Lib.hid (show ReadsL encF (w.alloc (.cells #[.float .f64 4609434218613702656, .float .f64 4598175219545276416] 48)).heap.size (w.alloc (.cells #[.float .f64 4609434218613702656, .float .f64 4598175219545276416] 48)) (some ⟨w.heap.size, 0, none⟩) twoL by simpa using hl0)
  clear hb0 hl0 hT
  go_enter Tryd.func6, Tryd.ntmps6
  go_wp2_with fail
  generalize w.alloc (.cells #[.float .f64 4609434218613702656, .float .f64 4598175219545276416] 48) = wa at *
  refine (step_any (some ⟨w.heap.size, 0, none⟩) 2 twoL wa two_wide HL.out (by decide) HT.out).mono ?_
  rw [two_step.1, two_step.2.1, two_step.2.2]
  rintro e w1 ⟨rfl, hb1⟩
  have HT1 := Lib.hid (tab_on HT.out (by decide) hb1)
  have HL1 := Lib.hid (HL.out.over hb1 (Nat.le_refl _))
  have HB1 := Lib.hid (HB.out.trans (hb1.mono HB.out.size))
  clear hb1
  go_wp2_with fail
  refine (scale_any (some ⟨w.heap.size, 0, none⟩) 2 twoL (-2) w1 two_wide HL1.out (by decide) (by decide) (by decide) HT1.out).mono ?_
  rintro e w2 ⟨⟨p, c, he, hrd⟩, hb2⟩
  rw [two_cnts.1, two_cnts.2.1, two_cnts.2.2] at he
  rw [two_cnts.1] at hrd
  subst he
  have b3 := (Below.refl w2.heap.size w2).alloc (Nat.le_refl _) (.cells #[.int .i64 6, .int .i64 1] 2)
  have HT2 := Lib.hid (tab_on HT1.out (by decide) (hb2.trans (b3.mono hb2.size)))
  have HL2 := Lib.hid (HL1.out.over (hb2.trans (b3.mono hb2.size)) (Nat.le_refl _))
  have HB2 := Lib.hid (HB1.out.trans ((hb2.trans (b3.mono hb2.size)).mono HB1.out.size))
  have HP := Lib.hid (hrd.over b3 (Nat.le_refl _))
  have HQ := Lib.hid (show ReadsL (encInt .i64) (w2.alloc (.cells #[.int .i64 6, .int .i64 1] 2)).heap.size (w2.alloc (.cells #[.int .i64 6, .int .i64 1] 2)) (some ⟨w2.heap.size, 0, none⟩) [6, 1] by simpa using six_reads w2)
  clear hb2 hrd b3
  go_wp2_with fail
  generalize w2.alloc (.cells #[.int .i64 6, .int .i64 1] 2) = w3 at *
  refine (sameI_any p (some ⟨w2.heap.size, 0, none⟩) c 2 [6, 1] w3 HP.out HQ.out (by decide)).mono ?_
  rintro e w4 ⟨rfl, hb4⟩
  have HT4 := Lib.hid (tab_on HT2.out (by decide) hb4)
  have HL4 := Lib.hid (HL2.out.over hb4 (Nat.le_refl _))
  have HB4 := Lib.hid (HB2.out.trans (hb4.mono HB2.out.size))
  clear hb4
  go_wp2_with fail
  refine (fits_any (some ⟨w.heap.size, 0, none⟩) 2 twoL (-3) w4 two_wide HL4.out (by decide) (by decide) (by decide) HT4.out).mono ?_
  rw [two_fits.1]
  rintro e w5 ⟨rfl, hb5⟩
  have HT5 := Lib.hid (tab_on HT4.out (by decide) hb5)
  have HL5 := Lib.hid (HL4.out.over hb5 (Nat.le_refl _))
  have HB5 := Lib.hid (HB4.out.trans (hb5.mono HB4.out.size))
  clear hb5
  go_wp2_with fail
  refine (fits_any (some ⟨w.heap.size, 0, none⟩) 2 twoL (-1) w5 two_wide HL5.out (by decide) (by decide) (by decide) HT5.out).mono ?_
  rw [two_fits.2]
  rintro e w6 ⟨rfl, hb6⟩
  have HB6 := Lib.hid (HB5.out.trans (hb6.mono HB5.out.size))
  clear hb6
  go_wp2
  go_ret
  exact ⟨rfl, HB6.out⟩
end Go.Proofs.YtopniihomjakoaaDoor
