/- The statements' own question whether the program cuts texts at all. -/
import Derived.Test.YthgalcfnaaboeaaWordRef1
import Derived.Test.YthgalcfnaaboeaaWordCut2
namespace Go.Proofs.Ythgalcfnaaboeaa.Wd
open Go.RowKit Go.ChangeShapes WordPure Str
theorem aw1 : linesB [97, 32, 98, 10, 10] = true ∧ (linesL [97, 32, 98, 10, 10]).length = 2 := by decide
theorem aw2 : wordsB [97, 32, 98] = true ∧ wordsL [97, 32, 98] = [[97], [98]] := by decide
theorem aw3 : wordsB [97, 32, 32, 98] = false := by decide
theorem aw4 : seenB [97, 126] = true := by decide
theorem aw5 : keyI [[97], [98]] [98] = 1 := by
  have h := key_hit (l := [[97], [98]]) (s := ⟨#[98]⟩) (k := 1) ⟨by decide, fun j h hj => by
    obtain rfl : j = 0 := by omega
    show (⟨[97].toArray⟩ : ByteArray) ≠ ⟨#[98]⟩
    decide⟩ (by decide) rfl
  exact h
set_option maxHeartbeats 1000000 in
theorem wordAwake_any (w : World) : Calls Try.prog 6 #[] w fun e w' => e = .returned (.bool true) ∧ Below w.heap.size w w' := by
  have A1 : Hid (∀ w, Calls Try.prog 7 #[.string ⟨#[97, 32, 98, 10, 10]⟩] w fun e w' => (∃ p cap, e = .returned (.tuple #[.slice p 2 cap, .bool true])) ∧ Below w.heap.size w w') := Lib.hid fun w => by
    refine (lines_any ⟨#[97, 32, 98, 10, 10]⟩ (by decide) w).mono fun e w' ⟨ho, hb⟩ => ⟨?_, hb⟩
    rw [show (⟨#[97, 32, 98, 10, 10]⟩ : ByteArray).data.toList = [97, 32, 98, 10, 10] from rfl] at ho
    obtain ⟨p, cap, he, -⟩ := ho
    rw [aw1.1, aw1.2] at he
    exact ⟨p, cap, he⟩
  have A2 : Hid (∀ w, Calls Try.prog 8 #[.string ⟨#[97, 32, 98]⟩] w fun e w' => (∃ p cap, e = .returned (.tuple #[.slice p 2 cap, .bool true]) ∧ ReadsL encS w'.heap.size w' p [[97], [98]]) ∧ Below w.heap.size w w') := Lib.hid fun w => by
    refine (words_any ⟨#[97, 32, 98]⟩ (by decide) w).mono fun e w' ⟨ho, hb⟩ => ⟨?_, hb⟩
    rw [show (⟨#[97, 32, 98]⟩ : ByteArray).data.toList = [97, 32, 98] from rfl] at ho
    obtain ⟨p, cap, he, hr, -⟩ := ho
    rw [aw2.2] at hr
    rw [aw2.1, aw2.2] at he
    exact ⟨p, cap, he, hr⟩
  have A3 : Hid (∀ w, Calls Try.prog 8 #[.string ⟨#[97, 32, 32, 98]⟩] w fun e w' => (∃ p n cap, e = .returned (.tuple #[.slice p n cap, .bool false])) ∧ Below w.heap.size w w') := Lib.hid fun w => by
    refine (words_any ⟨#[97, 32, 32, 98]⟩ (by decide) w).mono fun e w' ⟨ho, hb⟩ => ⟨?_, hb⟩
    rw [show (⟨#[97, 32, 32, 98]⟩ : ByteArray).data.toList = [97, 32, 32, 98] from rfl] at ho
    obtain ⟨p, cap, he, hr, -⟩ := ho
    rw [aw3] at he
    exact ⟨p, _, cap, he⟩
  have A4 : Hid (∀ w, Calls Try.prog 12 #[.string ⟨#[97, 126]⟩] w fun e w' => e = .returned (.bool true) ∧ Below w.heap.size w w') := Lib.hid fun w => by
    have h := plain_any ⟨#[97, 126]⟩ (by decide) w
    rw [show (⟨#[97, 126]⟩ : ByteArray).data.toList = [97, 126] from rfl, aw4] at h
    exact h
  have A5 : Hid (∀ a cap w, ReadsL encS w.heap.size w a [[97], [98]] → Calls Try.prog 14 #[.string ⟨#[98]⟩, .slice a 2 cap] w fun e w' => e = .returned (.int .i64 1) ∧ Below w.heap.size w w') := Lib.hid fun a cap w hl => by
    have h := key_any ⟨#[98]⟩ a cap [[97], [98]] w hl (by decide)
    rw [show (⟨#[98]⟩ : ByteArray).data.toList = [98] from rfl, aw5] at h
    exact h
  go_enter Try.func6, Try.ntmps6
  go_wp2_with fail
  refine (A1.out w).mono ?_
  rintro e w1 ⟨⟨p1, cap1, rfl⟩, hb1⟩
  have HB1 := Lib.hid hb1
  clear hb1
  go_wp2_with fail
  refine (A2.out w1).mono ?_
  rintro e w2 ⟨⟨p2, cap2, rfl, hr⟩, hb2⟩
  have HB2 := Lib.hid (HB1.out.trans (hb2.mono HB1.out.size))
  have HR2 := Lib.hid hr
  clear hb2 hr
  go_wp2_with fail
  refine (A3.out w2).mono ?_
  rintro e w3 ⟨⟨p3, n3, cap3, rfl⟩, hb3⟩
  have HB3 := Lib.hid (HB2.out.trans (hb3.mono HB2.out.size))
  have HR3 := Lib.hid (HR2.out.over hb3 (Nat.le_refl _))
  clear hb3
  go_wp2_with fail
  refine (A4.out w3).mono ?_
  rintro e w4 ⟨rfl, hb4⟩
  have HB4 := Lib.hid (HB3.out.trans (hb4.mono HB3.out.size))
  have HR4 := Lib.hid (HR3.out.over hb4 (Nat.le_refl _))
  clear hb4
  go_wp2_with fail
  refine (A5.out p2 cap2 w4 HR4.out).mono ?_
  rintro e w5 ⟨rfl, hb5⟩
  have HB5 := Lib.hid (HB4.out.trans (hb5.mono HB4.out.size))
  clear hb5
  go_wp2
  go_ret
  exact ⟨rfl, HB5.out⟩
end Go.Proofs.Ythgalcfnaaboeaa.Wd
