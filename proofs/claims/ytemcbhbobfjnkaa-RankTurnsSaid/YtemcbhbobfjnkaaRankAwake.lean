/- The program orders keys at all: awake of layer 14. -/
import Derived.Test.YtemcbhbobfjnkaaRankRef3
namespace Go.Proofs.Ytemcbhbobfjnkaa
open Go.RowKit Go.ChangeShapes RankPure
theorem by_some : byL [5, 2, 5] = [1, 0, 2] := (by_unique (ks := [5, 2, 5]) (p := [1, 0, 2]) (by decide) (by decide)).symm
theorem sort_some : sortK [5, 2, 5] = [2, 5, 5] := by rw [sortK_by, by_some]; rfl
theorem med_some : medV [5, 2, 5] = 5 := by unfold medV; rw [sort_some]; rfl
theorem dist_some : (distL [5, 2, 5]).length = 2 := by unfold distL; rw [sort_some]; decide
theorem not_some : ¬ OrdP [0, 0] := by decide
theorem reads_three (w : World) (x y z : Int) (T : TypeId) : ReadsL encZ (w.alloc (.cells #[.int .i64 x, .int .i64 y, .int .i64 z] T)).heap.size (w.alloc (.cells #[.int .i64 x, .int .i64 y, .int .i64 z] T)) (some ⟨w.heap.size, 0, none⟩) [x, y, z] := by
  refine Or.inr ⟨w.heap.size, 0, rfl, by simp, fun i hi => ?_⟩
  match i, hi with
  | 0, _ => simp [encZ]
  | 1, _ => simp [encZ]
  | 2, _ => simp [encZ]
theorem reads_two (w : World) (x y : Int) (T : TypeId) : ReadsL encZ (w.alloc (.cells #[.int .i64 x, .int .i64 y] T)).heap.size (w.alloc (.cells #[.int .i64 x, .int .i64 y] T)) (some ⟨w.heap.size, 0, none⟩) [x, y] := by
  refine Or.inr ⟨w.heap.size, 0, rfl, by simp, fun i hi => ?_⟩
  match i, hi with
  | 0, _ => simp [encZ]
  | 1, _ => simp [encZ]
set_option maxHeartbeats 1000000 in
theorem awake_any (w : World) : Calls Try.prog 6 #[] w fun e w' => e = .returned (.bool true) ∧ Below w.heap.size w w' := by
  have hr := reads_three w 5 2 5 2
  obtain ⟨w1, hw1⟩ : ∃ w1, w.alloc (.cells #[.int .i64 5, .int .i64 2, .int .i64 5] 2) = w1 := ⟨_, rfl⟩
  have hb1 : Below w.heap.size w w1 := by rw [← hw1]; exact (Below.refl _ _).alloc (Nat.le_refl _) _
  rw [hw1] at hr
  have HW1 := Lib.hid hw1
  have HR := Lib.hid hr
  have HB := Lib.hid hb1
  clear hw1 hr hb1
  go_enter Try.func6, Try.ntmps6
  go_wp2_with fail
  rw [HW1.out]
  have HM : Hid (Calls Try.prog 7 #[.slice (some ⟨w.heap.size, 0, none⟩) 3 3] w1 fun e w' => e = .returned (.tuple #[.int .i64 5, .bool true]) ∧ Below w1.heap.size w1 w') :=
    Lib.hid (Calls.mono (median_any _ 3 [5, 2, 5] (by decide) w1 HR.out) (by
      rintro e w' ⟨h | h, hb⟩
      · exact absurd h.1 (by simp)
      · rw [med_some] at h; exact ⟨h.2, hb⟩))
  refine HM.out.mono ?_
  rintro e w2 ⟨rfl, hb2⟩
  have HB2 := Lib.hid (HB.out.trans (hb2.mono HB.out.size))
  have HR2 := Lib.hid (HR.out.over hb2 (Nat.le_refl _))
  clear hb2
  go_wp2_with fail
  have hr3 := reads_two w2 0 0 3
  obtain ⟨w3, hw3⟩ : ∃ w3, w2.alloc (.cells #[.int .i64 0, .int .i64 0] 3) = w3 := ⟨_, rfl⟩
  have hb3 : Below w2.heap.size w2 w3 := by rw [← hw3]; exact (Below.refl _ _).alloc (Nat.le_refl _) _
  rw [hw3] at hr3
  rw [hw3]
  have HI : Hid (Calls Try.prog 16 #[.slice (some ⟨w2.heap.size, 0, none⟩) 2 2] w3 fun e w' => e = .returned (.tuple #[.slice none 0 0, .bool false]) ∧ Below w3.heap.size w3 w') :=
    Lib.hid (Calls.mono (inverse_any _ 2 [0, 0] (by decide) w3 hr3) (by
      rintro e w' ⟨h | h, hb⟩
      · exact absurd h.1 not_some
      · exact ⟨h.2, hb⟩))
  have HB3 := Lib.hid (HB2.out.trans (hb3.mono HB2.out.size))
  have HR3 := Lib.hid (HR2.out.over hb3 (Nat.le_refl _))
  clear hw3 hb3 hr3
  refine HI.out.mono ?_
  rintro e w4 ⟨rfl, hb4⟩
  have HB4 := Lib.hid (HB3.out.trans (hb4.mono HB3.out.size))
  have HR4 := Lib.hid (HR3.out.over hb4 (Nat.le_refl _))
  clear hb4
  go_wp2_with fail
  have HY : Hid (Calls Try.prog 10 #[.slice (some ⟨w.heap.size, 0, none⟩) 3 3] w4 fun e w' => ∃ g, e = .returned (.slice (some ⟨g, 0, none⟩) 3 3) ∧ Below w4.heap.size w4 w' ∧ ReadsL encZ w'.heap.size w' (some ⟨g, 0, none⟩) [1, 0, 2]) :=
    Lib.hid (Calls.mono (by_any _ 3 [5, 2, 5] (by decide) w4 HR4.out) (by
      rintro e w' ⟨g, h1, h2, h3, h4⟩
      rw [by_some] at h4
      exact ⟨g, h1, h3, h4⟩))
  refine HY.out.mono ?_
  rintro e w5 ⟨g, rfl, hb5, hr5⟩
  have HB5 := Lib.hid (HB4.out.trans (hb5.mono HB4.out.size))
  have HR5 := Lib.hid (HR4.out.over hb5 (Nat.le_refl _))
  have HG5 := Lib.hid hr5
  clear hb5 hr5
  go_wp2_with fail
  have hr6 := reads_three w5 1 0 2 3
  obtain ⟨w6, hw6⟩ : ∃ w6, w5.alloc (.cells #[.int .i64 1, .int .i64 0, .int .i64 2] 3) = w6 := ⟨_, rfl⟩
  have hb6 : Below w5.heap.size w5 w6 := by rw [← hw6]; exact (Below.refl _ _).alloc (Nat.le_refl _) _
  rw [hw6] at hr6
  rw [hw6]
  have HS : Hid (Calls Try.prog 9 #[.slice (some ⟨g, 0, none⟩) 3 3, .slice (some ⟨w5.heap.size, 0, none⟩) 3 3] w6 fun e w' => e = .returned (.bool true) ∧ ∃ m, w' = w6.drewN m) :=
    Lib.hid (ints_any (some ⟨g, 0, none⟩) (some ⟨w5.heap.size, 0, none⟩) 3 3 [1, 0, 2] [1, 0, 2] w6 (HG5.out.over hb6 (Nat.le_refl _)) hr6 (by decide))
  have HB6 := Lib.hid (HB5.out.trans (hb6.mono HB5.out.size))
  have HR6 := Lib.hid (HR5.out.over hb6 (Nat.le_refl _))
  clear hw6 hb6 hr6
  refine HS.out.mono ?_
  rintro e w7 ⟨rfl, m, rfl⟩
  have HD : Hid (Calls Try.prog 14 #[.slice (some ⟨w.heap.size, 0, none⟩) 3 3] (w6.drewN m) fun e w' => ∃ p cap, e = .returned (.slice p 2 cap) ∧ Below w6.heap.size w6 w') :=
    Lib.hid (Calls.mono (distinct_any _ 3 [5, 2, 5] (by decide) (w6.drewN m) (HR6.out.over (below_drewN (Below.refl _ _) m) (Nat.le_refl _))) (by
      rintro e w' ⟨⟨p, cap, h1, -⟩, hb⟩
      rw [dist_some] at h1
      exact ⟨p, cap, h1, (below_drewN (Below.refl w6.heap.size w6) m).trans hb⟩))
  go_wp2_with fail
  refine HD.out.mono ?_
  rintro e w8 ⟨p, cap, rfl, hb8⟩
  have HB8 := Lib.hid (HB6.out.trans (hb8.mono HB6.out.size))
  clear hb8
  go_wp2
  go_ret
  exact ⟨rfl, HB8.out⟩
end Go.Proofs.Ytemcbhbobfjnkaa
