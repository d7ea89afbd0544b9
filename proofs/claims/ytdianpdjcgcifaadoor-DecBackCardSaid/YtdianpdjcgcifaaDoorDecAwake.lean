/- The statements' own question whether the program reads digits at all. -/
import Derived.Test.YtdianpdjcgcifaaDoorDecRead
namespace Go.Proofs.YtdianpdjcgcifaaDoor
open Go.RowKit Go.ChangeShapes DecPure First
theorem aw1 : parseN [45, 52, 48] = -40 ∧ parseE [45, 52, 48] = 0 := by decide
theorem aw2 : natN [57] 8 = 0 ∧ natE [57] 8 = 10 := by decide
theorem aw3 : readE [49, 32, 50] = 0 ∧ (readL [49, 32, 50]).length = 2 := by decide
theorem aw4 : Lib.itoa 7 = [55] := by rw [show (7 : Int) = ((7 : Nat) : Int) from rfl, Lib.itoa_nonneg, dec_small (by omega)]; rfl
set_option maxHeartbeats 1000000 in
theorem decAwake_any (w : World) (hT : Ten w) :
    Calls Tryd.prog 6 #[] w fun e w' => e = .returned (.bool true) ∧ Below w.heap.size w w' := by
  have HT := Lib.hid hT
  have A1 : Hid (∀ w, Calls Tryd.prog 7 #[.string ⟨#[45, 52, 48]⟩] w fun e w' => e = .returned (.tuple #[.int .i64 (-40), .int .i64 0]) ∧ Below w.heap.size w w') := Lib.hid fun w => by
    have h := parse_any ⟨#[45, 52, 48]⟩ w
    rw [show (⟨#[45, 52, 48]⟩ : ByteArray).data.toList = [45, 52, 48] from rfl, aw1.1, aw1.2] at h
    exact h
  have A2 : Hid (∀ w, Calls Tryd.prog 8 #[.string ⟨#[57]⟩, .int .i64 8] w fun e w' => e = .returned (.tuple #[.int .i64 0, .int .i64 10]) ∧ Below w.heap.size w w') := Lib.hid fun w => by
    have h := nat_any ⟨#[57]⟩ 8 w
    rw [show (⟨#[57]⟩ : ByteArray).data.toList = [57] from rfl, aw2.1, aw2.2] at h
    exact h
  have A3 : Hid (∀ w, Calls Tryd.prog 13 #[.string ⟨#[49, 32, 50]⟩] w fun e w' => (∃ p cap, e = .returned (.tuple #[.slice p 2 cap, .int .i64 0, .int .i64 0])) ∧ Below w.heap.size w w') := Lib.hid fun w => by
    refine (read_any ⟨#[49, 32, 50]⟩ (by decide) w).mono fun e w' ⟨ho, hb⟩ => ⟨?_, hb⟩
    rw [show (⟨#[49, 32, 50]⟩ : ByteArray).data.toList = [49, 32, 50] from rfl] at ho
    rcases ho with ⟨-, -, p, cap, he, -⟩ | ⟨h, -⟩
    · rw [aw3.2] at he; exact ⟨p, cap, he⟩
    · exact absurd aw3.1 h
  have A4 : Hid (∀ w, Ten w → Calls Tryd.prog 11 #[.int .i64 7] w fun e w' => e = .returned (.string ⟨#[55]⟩) ∧ Below w.heap.size w w') := Lib.hid fun w h => by
    have h := print_any 7 (by decide) (by decide) w h
    rw [aw4] at h
    exact h
  clear hT
  go_enter Tryd.func6, Tryd.ntmps6
  go_wp2_with fail
  refine (A1.out w).mono ?_
  rintro e w1 ⟨rfl, hb1⟩
  have HB1 := Lib.hid hb1
  clear hb1
  go_wp2_with fail
  refine (A2.out w1).mono ?_
  rintro e w2 ⟨rfl, hb2⟩
  have HB2 := Lib.hid (HB1.out.trans (hb2.mono HB1.out.size))
  clear hb2
  go_wp2_with fail
  refine (A3.out w2).mono ?_
  rintro e w3 ⟨⟨p, cap, rfl⟩, hb3⟩
  have HB3 := Lib.hid (HB2.out.trans (hb3.mono HB2.out.size))
  clear hb3
  go_wp2_with fail
  refine (A4.out w3 (HT.out.on HB3.out)).mono ?_
  rintro e w4 ⟨rfl, hb4⟩
  have HB4 := Lib.hid (HB3.out.trans (hb4.mono HB3.out.size))
  clear hb4
  go_wp2
  go_ret
  exact ⟨rfl, HB4.out⟩
end Go.Proofs.YtdianpdjcgcifaaDoor
